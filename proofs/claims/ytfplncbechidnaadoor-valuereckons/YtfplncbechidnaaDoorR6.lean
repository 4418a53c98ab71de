/- The walk of the document's Reckon at two numbers. -/
import Derived.Test.YtfplncbechidnaaDoorW7
import Derived.Test.YtfplncbechidnaaDoorR1
import Derived.Test.YtfplncbechidnaaDoorR4
namespace Go.Proofs.YtfplncbechidnaaDoor
open Go.RowKit Go.Sort

set_option maxHeartbeats 1000000 in
set_option maxRecDepth 100000 in
theorem rr_plus_ok (n : Int) (t : ByteArray) (b : Bool) (n' : Int) (t' : ByteArray) (b' : Bool) (w : World) (N : Int) (a0 : ∀ W, Calls Tryd.prog 45 #[.int .i64 n, .int .i64 n'] W fun e w' => e = .returned (.tuple #[.int .i64 N, .bool true]) ∧ w' = W) :
    Calls Tryd.prog 22 #[.int .u8 43, .agg #[.int .i64 1, .int .i64 n, .string t, .bool b], .agg #[.int .i64 1, .int .i64 n', .string t', .bool b']] w fun e w' => e = .returned (.tuple #[.agg #[.int .i64 1, .int .i64 N, .string ⟨#[]⟩, .bool false], .int .i64 0]) ∧ Below w.heap.size w w' := by
  have A0 := Lib.hid a0
  clear a0
  have F0 := Lib.hid (fr2_start w 1 n t b 1 n' t' b' 23)
  have HI : Hid (∀ W, Calls Tryd.prog 47 #[.int .i64 N] W fun e w' => e = .returned (.agg #[.int .i64 1, .int .i64 N, .string ⟨#[]⟩, .bool false]) ∧ Below W.heap.size W w') := fun W => rint_ _ W
  go_enter Tryd.func22, Tryd.ntmps22
  go_wp2_with fail
  go_quiet (fail)
  have F1 := Lib.hid (F0.out.on (below_drewN (Below.refl _ _) nq))
  clear F0
  obtain ⟨⟨p0, p1, p2, p3⟩, ⟨q0, q1, q2, q3⟩, ⟨r0, r1, r2, r3⟩, ⟨f0, f1, f2, f3⟩, hbw, hsz⟩ := F1.out
  generalize hV : World.drewN _ nq = V at *
  clear hV
  go_wp2_with fail
  refine (A0.out _).mono ?_
  rintro e w0 ⟨rfl, rfl⟩
  go_wp2_with fail
  refine (HI.out _).mono ?_
  rintro e wl ⟨rfl, hbl⟩
  clear p0 p1 p2 p3 q0 q1 q2 q3 r0 r1 r2 r3 f0 f1 f2 f3 hbw hsz
  obtain ⟨⟨p0, p1, p2, p3⟩, ⟨q0, q1, q2, q3⟩, ⟨r0, r1, r2, r3⟩, ⟨f0, f1, f2, f3⟩, hbw, hsz⟩ := F1.out.on hbl
  go_wp2_with fail
  refine bodyPost_ret (v := .tuple #[.agg #[.int .i64 1, .int .i64 N, .string ⟨#[]⟩, .bool false], .int .i64 0]) ?_ rfl ⟨rfl, four_set hbw (w.heap.size + 1 + 1) (by omega) _ _ _ _⟩
  simp [results, Tryd.results22, go_sem, r0, r1, r2, r3]
set_option maxHeartbeats 1000000 in
set_option maxRecDepth 100000 in
theorem rr_plus_no (n : Int) (t : ByteArray) (b : Bool) (n' : Int) (t' : ByteArray) (b' : Bool) (w : World) (N : Int) (a0 : ∀ W, Calls Tryd.prog 45 #[.int .i64 n, .int .i64 n'] W fun e w' => e = .returned (.tuple #[.int .i64 N, .bool false]) ∧ w' = W) :
    Calls Tryd.prog 22 #[.int .u8 43, .agg #[.int .i64 1, .int .i64 n, .string t, .bool b], .agg #[.int .i64 1, .int .i64 n', .string t', .bool b']] w fun e w' => e = .returned (.tuple #[.agg #[.int .i64 0, .int .i64 0, .string ⟨#[]⟩, .bool false], .int .i64 5]) ∧ Below w.heap.size w w' := by
  have A0 := Lib.hid a0
  clear a0
  have F0 := Lib.hid (fr2_start w 1 n t b 1 n' t' b' 23)
  go_enter Tryd.func22, Tryd.ntmps22
  go_wp2_with fail
  go_quiet (fail)
  have F1 := Lib.hid (F0.out.on (below_drewN (Below.refl _ _) nq))
  clear F0
  obtain ⟨⟨p0, p1, p2, p3⟩, ⟨q0, q1, q2, q3⟩, ⟨r0, r1, r2, r3⟩, ⟨f0, f1, f2, f3⟩, hbw, hsz⟩ := F1.out
  generalize hV : World.drewN _ nq = V at *
  clear hV
  go_wp2_with fail
  refine (A0.out _).mono ?_
  rintro e w0 ⟨rfl, rfl⟩
  go_wp2_with fail
  refine bodyPost_ret (v := .tuple #[.agg #[.int .i64 0, .int .i64 0, .string ⟨#[]⟩, .bool false], .int .i64 5]) ?_ rfl ⟨rfl, four_set hbw (w.heap.size + 1 + 1) (by omega) _ _ _ _⟩
  simp [results, Tryd.results22, go_sem, r0, r1, r2, r3]
set_option maxHeartbeats 1000000 in
set_option maxRecDepth 100000 in
theorem rr_times_ok (n : Int) (t : ByteArray) (b : Bool) (n' : Int) (t' : ByteArray) (b' : Bool) (w : World) (N : Int) (a0 : ∀ W, Calls Tryd.prog 46 #[.int .i64 n, .int .i64 n'] W fun e w' => e = .returned (.tuple #[.int .i64 N, .bool true]) ∧ w' = W) :
    Calls Tryd.prog 22 #[.int .u8 42, .agg #[.int .i64 1, .int .i64 n, .string t, .bool b], .agg #[.int .i64 1, .int .i64 n', .string t', .bool b']] w fun e w' => e = .returned (.tuple #[.agg #[.int .i64 1, .int .i64 N, .string ⟨#[]⟩, .bool false], .int .i64 0]) ∧ Below w.heap.size w w' := by
  have A0 := Lib.hid a0
  clear a0
  have F0 := Lib.hid (fr2_start w 1 n t b 1 n' t' b' 23)
  have HI : Hid (∀ W, Calls Tryd.prog 47 #[.int .i64 N] W fun e w' => e = .returned (.agg #[.int .i64 1, .int .i64 N, .string ⟨#[]⟩, .bool false]) ∧ Below W.heap.size W w') := fun W => rint_ _ W
  go_enter Tryd.func22, Tryd.ntmps22
  go_wp2_with fail
  go_quiet (fail)
  have F1 := Lib.hid (F0.out.on (below_drewN (Below.refl _ _) nq))
  clear F0
  obtain ⟨⟨p0, p1, p2, p3⟩, ⟨q0, q1, q2, q3⟩, ⟨r0, r1, r2, r3⟩, ⟨f0, f1, f2, f3⟩, hbw, hsz⟩ := F1.out
  generalize hV : World.drewN _ nq = V at *
  clear hV
  go_wp2_with fail
  refine (A0.out _).mono ?_
  rintro e w0 ⟨rfl, rfl⟩
  go_wp2_with fail
  refine (HI.out _).mono ?_
  rintro e wl ⟨rfl, hbl⟩
  clear p0 p1 p2 p3 q0 q1 q2 q3 r0 r1 r2 r3 f0 f1 f2 f3 hbw hsz
  obtain ⟨⟨p0, p1, p2, p3⟩, ⟨q0, q1, q2, q3⟩, ⟨r0, r1, r2, r3⟩, ⟨f0, f1, f2, f3⟩, hbw, hsz⟩ := F1.out.on hbl
  go_wp2_with fail
  refine bodyPost_ret (v := .tuple #[.agg #[.int .i64 1, .int .i64 N, .string ⟨#[]⟩, .bool false], .int .i64 0]) ?_ rfl ⟨rfl, four_set hbw (w.heap.size + 1 + 1) (by omega) _ _ _ _⟩
  simp [results, Tryd.results22, go_sem, r0, r1, r2, r3]
set_option maxHeartbeats 1000000 in
set_option maxRecDepth 100000 in
theorem rr_times_no (n : Int) (t : ByteArray) (b : Bool) (n' : Int) (t' : ByteArray) (b' : Bool) (w : World) (N : Int) (a0 : ∀ W, Calls Tryd.prog 46 #[.int .i64 n, .int .i64 n'] W fun e w' => e = .returned (.tuple #[.int .i64 N, .bool false]) ∧ w' = W) :
    Calls Tryd.prog 22 #[.int .u8 42, .agg #[.int .i64 1, .int .i64 n, .string t, .bool b], .agg #[.int .i64 1, .int .i64 n', .string t', .bool b']] w fun e w' => e = .returned (.tuple #[.agg #[.int .i64 0, .int .i64 0, .string ⟨#[]⟩, .bool false], .int .i64 5]) ∧ Below w.heap.size w w' := by
  have A0 := Lib.hid a0
  clear a0
  have F0 := Lib.hid (fr2_start w 1 n t b 1 n' t' b' 23)
  go_enter Tryd.func22, Tryd.ntmps22
  go_wp2_with fail
  go_quiet (fail)
  have F1 := Lib.hid (F0.out.on (below_drewN (Below.refl _ _) nq))
  clear F0
  obtain ⟨⟨p0, p1, p2, p3⟩, ⟨q0, q1, q2, q3⟩, ⟨r0, r1, r2, r3⟩, ⟨f0, f1, f2, f3⟩, hbw, hsz⟩ := F1.out
  generalize hV : World.drewN _ nq = V at *
  clear hV
  go_wp2_with fail
  refine (A0.out _).mono ?_
  rintro e w0 ⟨rfl, rfl⟩
  go_wp2_with fail
  refine bodyPost_ret (v := .tuple #[.agg #[.int .i64 0, .int .i64 0, .string ⟨#[]⟩, .bool false], .int .i64 5]) ?_ rfl ⟨rfl, four_set hbw (w.heap.size + 1 + 1) (by omega) _ _ _ _⟩
  simp [results, Tryd.results22, go_sem, r0, r1, r2, r3]
set_option maxHeartbeats 1000000 in
set_option maxRecDepth 100000 in
theorem rr_least_ok (n : Int) (t : ByteArray) (b : Bool) (t' : ByteArray) (b' : Bool) (w : World) (M N : Int) (a0 : ∀ W, Calls Tryd.prog 45 #[.int .i64 n, .int .i64 9223372036854775807] W fun e w' => e = .returned (.tuple #[.int .i64 M, .bool true]) ∧ w' = W) (a1 : ∀ W, Calls Tryd.prog 45 #[.int .i64 M, .int .i64 1] W fun e w' => e = .returned (.tuple #[.int .i64 N, .bool true]) ∧ w' = W) :
    Calls Tryd.prog 22 #[.int .u8 45, .agg #[.int .i64 1, .int .i64 n, .string t, .bool b], .agg #[.int .i64 1, .int .i64 (-9223372036854775808), .string t', .bool b']] w fun e w' => e = .returned (.tuple #[.agg #[.int .i64 1, .int .i64 N, .string ⟨#[]⟩, .bool false], .int .i64 0]) ∧ Below w.heap.size w w' := by
  have A0 := Lib.hid a0
  clear a0
  have A1 := Lib.hid a1
  clear a1
  have F0 := Lib.hid (fr2_start w 1 n t b 1 (-9223372036854775808) t' b' 23)
  have HI : Hid (∀ W, Calls Tryd.prog 47 #[.int .i64 N] W fun e w' => e = .returned (.agg #[.int .i64 1, .int .i64 N, .string ⟨#[]⟩, .bool false]) ∧ Below W.heap.size W w') := fun W => rint_ _ W
  go_enter Tryd.func22, Tryd.ntmps22
  go_wp2_with fail
  go_quiet (fail)
  have F1 := Lib.hid (F0.out.on (below_drewN (Below.refl _ _) nq))
  clear F0
  obtain ⟨⟨p0, p1, p2, p3⟩, ⟨q0, q1, q2, q3⟩, ⟨r0, r1, r2, r3⟩, ⟨f0, f1, f2, f3⟩, hbw, hsz⟩ := F1.out
  generalize hV : World.drewN _ nq = V at *
  clear hV
  go_wp2_with fail
  refine (A0.out _).mono ?_
  rintro e w0 ⟨rfl, rfl⟩
  go_wp2_with fail
  refine (A1.out _).mono ?_
  rintro e w1 ⟨rfl, rfl⟩
  go_wp2_with fail
  refine (HI.out _).mono ?_
  rintro e wl ⟨rfl, hbl⟩
  clear p0 p1 p2 p3 q0 q1 q2 q3 r0 r1 r2 r3 f0 f1 f2 f3 hbw hsz
  obtain ⟨⟨p0, p1, p2, p3⟩, ⟨q0, q1, q2, q3⟩, ⟨r0, r1, r2, r3⟩, ⟨f0, f1, f2, f3⟩, hbw, hsz⟩ := F1.out.on hbl
  go_wp2_with fail
  refine bodyPost_ret (v := .tuple #[.agg #[.int .i64 1, .int .i64 N, .string ⟨#[]⟩, .bool false], .int .i64 0]) ?_ rfl ⟨rfl, four_set hbw (w.heap.size + 1 + 1) (by omega) _ _ _ _⟩
  simp [results, Tryd.results22, go_sem, r0, r1, r2, r3]
set_option maxHeartbeats 1000000 in
set_option maxRecDepth 100000 in
theorem rr_least_no (n : Int) (t : ByteArray) (b : Bool) (t' : ByteArray) (b' : Bool) (w : World) (M N : Int) (a0 : ∀ W, Calls Tryd.prog 45 #[.int .i64 n, .int .i64 9223372036854775807] W fun e w' => e = .returned (.tuple #[.int .i64 M, .bool true]) ∧ w' = W) (a1 : ∀ W, Calls Tryd.prog 45 #[.int .i64 M, .int .i64 1] W fun e w' => e = .returned (.tuple #[.int .i64 N, .bool false]) ∧ w' = W) :
    Calls Tryd.prog 22 #[.int .u8 45, .agg #[.int .i64 1, .int .i64 n, .string t, .bool b], .agg #[.int .i64 1, .int .i64 (-9223372036854775808), .string t', .bool b']] w fun e w' => e = .returned (.tuple #[.agg #[.int .i64 0, .int .i64 0, .string ⟨#[]⟩, .bool false], .int .i64 5]) ∧ Below w.heap.size w w' := by
  have A0 := Lib.hid a0
  clear a0
  have A1 := Lib.hid a1
  clear a1
  have F0 := Lib.hid (fr2_start w 1 n t b 1 (-9223372036854775808) t' b' 23)
  go_enter Tryd.func22, Tryd.ntmps22
  go_wp2_with fail
  go_quiet (fail)
  have F1 := Lib.hid (F0.out.on (below_drewN (Below.refl _ _) nq))
  clear F0
  obtain ⟨⟨p0, p1, p2, p3⟩, ⟨q0, q1, q2, q3⟩, ⟨r0, r1, r2, r3⟩, ⟨f0, f1, f2, f3⟩, hbw, hsz⟩ := F1.out
  generalize hV : World.drewN _ nq = V at *
  clear hV
  go_wp2_with fail
  refine (A0.out _).mono ?_
  rintro e w0 ⟨rfl, rfl⟩
  go_wp2_with fail
  refine (A1.out _).mono ?_
  rintro e w1 ⟨rfl, rfl⟩
  go_wp2_with fail
  refine bodyPost_ret (v := .tuple #[.agg #[.int .i64 0, .int .i64 0, .string ⟨#[]⟩, .bool false], .int .i64 5]) ?_ rfl ⟨rfl, four_set hbw (w.heap.size + 1 + 1) (by omega) _ _ _ _⟩
  simp [results, Tryd.results22, go_sem, r0, r1, r2, r3]
set_option maxHeartbeats 1000000 in
set_option maxRecDepth 100000 in
theorem rr_least_no2 (n : Int) (t : ByteArray) (b : Bool) (t' : ByteArray) (b' : Bool) (w : World) (M : Int) (a0 : ∀ W, Calls Tryd.prog 45 #[.int .i64 n, .int .i64 9223372036854775807] W fun e w' => e = .returned (.tuple #[.int .i64 M, .bool false]) ∧ w' = W) :
    Calls Tryd.prog 22 #[.int .u8 45, .agg #[.int .i64 1, .int .i64 n, .string t, .bool b], .agg #[.int .i64 1, .int .i64 (-9223372036854775808), .string t', .bool b']] w fun e w' => e = .returned (.tuple #[.agg #[.int .i64 0, .int .i64 0, .string ⟨#[]⟩, .bool false], .int .i64 5]) ∧ Below w.heap.size w w' := by
  have A0 := Lib.hid a0
  clear a0
  have F0 := Lib.hid (fr2_start w 1 n t b 1 (-9223372036854775808) t' b' 23)
  go_enter Tryd.func22, Tryd.ntmps22
  go_wp2_with fail
  go_quiet (fail)
  have F1 := Lib.hid (F0.out.on (below_drewN (Below.refl _ _) nq))
  clear F0
  obtain ⟨⟨p0, p1, p2, p3⟩, ⟨q0, q1, q2, q3⟩, ⟨r0, r1, r2, r3⟩, ⟨f0, f1, f2, f3⟩, hbw, hsz⟩ := F1.out
  generalize hV : World.drewN _ nq = V at *
  clear hV
  go_wp2_with fail
  refine (A0.out _).mono ?_
  rintro e w0 ⟨rfl, rfl⟩
  go_wp2_with fail
  refine bodyPost_ret (v := .tuple #[.agg #[.int .i64 0, .int .i64 0, .string ⟨#[]⟩, .bool false], .int .i64 5]) ?_ rfl ⟨rfl, four_set hbw (w.heap.size + 1 + 1) (by omega) _ _ _ _⟩
  simp [results, Tryd.results22, go_sem, r0, r1, r2, r3]
set_option maxHeartbeats 1000000 in
set_option maxRecDepth 100000 in
theorem rr_minus_ok (n : Int) (t : ByteArray) (b : Bool) (n' : Int) (t' : ByteArray) (b' : Bool) (w : World) (N : Int) (hy : (n' == -9223372036854775808) = false) (hw : wrap64 (-n') = -n') (a0 : ∀ W, Calls Tryd.prog 45 #[.int .i64 n, .int .i64 (-n')] W fun e w' => e = .returned (.tuple #[.int .i64 N, .bool true]) ∧ w' = W) :
    Calls Tryd.prog 22 #[.int .u8 45, .agg #[.int .i64 1, .int .i64 n, .string t, .bool b], .agg #[.int .i64 1, .int .i64 n', .string t', .bool b']] w fun e w' => e = .returned (.tuple #[.agg #[.int .i64 1, .int .i64 N, .string ⟨#[]⟩, .bool false], .int .i64 0]) ∧ Below w.heap.size w w' := by
  have A0 := Lib.hid a0
  clear a0
  have F0 := Lib.hid (fr2_start w 1 n t b 1 n' t' b' 23)
  have HI : Hid (∀ W, Calls Tryd.prog 47 #[.int .i64 N] W fun e w' => e = .returned (.agg #[.int .i64 1, .int .i64 N, .string ⟨#[]⟩, .bool false]) ∧ Below W.heap.size W w') := fun W => rint_ _ W
  go_enter Tryd.func22, Tryd.ntmps22
  go_wp2_with fail
  go_quiet (fail)
  have F1 := Lib.hid (F0.out.on (below_drewN (Below.refl _ _) nq))
  clear F0
  obtain ⟨⟨p0, p1, p2, p3⟩, ⟨q0, q1, q2, q3⟩, ⟨r0, r1, r2, r3⟩, ⟨f0, f1, f2, f3⟩, hbw, hsz⟩ := F1.out
  generalize hV : World.drewN _ nq = V at *
  clear hV
  go_wp2_with fail
  refine (A0.out _).mono ?_
  rintro e w0 ⟨rfl, rfl⟩
  go_wp2_with fail
  refine (HI.out _).mono ?_
  rintro e wl ⟨rfl, hbl⟩
  clear p0 p1 p2 p3 q0 q1 q2 q3 r0 r1 r2 r3 f0 f1 f2 f3 hbw hsz
  obtain ⟨⟨p0, p1, p2, p3⟩, ⟨q0, q1, q2, q3⟩, ⟨r0, r1, r2, r3⟩, ⟨f0, f1, f2, f3⟩, hbw, hsz⟩ := F1.out.on hbl
  go_wp2_with fail
  refine bodyPost_ret (v := .tuple #[.agg #[.int .i64 1, .int .i64 N, .string ⟨#[]⟩, .bool false], .int .i64 0]) ?_ rfl ⟨rfl, four_set hbw (w.heap.size + 1 + 1) (by omega) _ _ _ _⟩
  simp [results, Tryd.results22, go_sem, r0, r1, r2, r3]
set_option maxHeartbeats 1000000 in
set_option maxRecDepth 100000 in
theorem rr_minus_no (n : Int) (t : ByteArray) (b : Bool) (n' : Int) (t' : ByteArray) (b' : Bool) (w : World) (N : Int) (hy : (n' == -9223372036854775808) = false) (hw : wrap64 (-n') = -n') (a0 : ∀ W, Calls Tryd.prog 45 #[.int .i64 n, .int .i64 (-n')] W fun e w' => e = .returned (.tuple #[.int .i64 N, .bool false]) ∧ w' = W) :
    Calls Tryd.prog 22 #[.int .u8 45, .agg #[.int .i64 1, .int .i64 n, .string t, .bool b], .agg #[.int .i64 1, .int .i64 n', .string t', .bool b']] w fun e w' => e = .returned (.tuple #[.agg #[.int .i64 0, .int .i64 0, .string ⟨#[]⟩, .bool false], .int .i64 5]) ∧ Below w.heap.size w w' := by
  have A0 := Lib.hid a0
  clear a0
  have F0 := Lib.hid (fr2_start w 1 n t b 1 n' t' b' 23)
  go_enter Tryd.func22, Tryd.ntmps22
  go_wp2_with fail
  go_quiet (fail)
  have F1 := Lib.hid (F0.out.on (below_drewN (Below.refl _ _) nq))
  clear F0
  obtain ⟨⟨p0, p1, p2, p3⟩, ⟨q0, q1, q2, q3⟩, ⟨r0, r1, r2, r3⟩, ⟨f0, f1, f2, f3⟩, hbw, hsz⟩ := F1.out
  generalize hV : World.drewN _ nq = V at *
  clear hV
  go_wp2_with fail
  refine (A0.out _).mono ?_
  rintro e w0 ⟨rfl, rfl⟩
  go_wp2_with fail
  refine bodyPost_ret (v := .tuple #[.agg #[.int .i64 0, .int .i64 0, .string ⟨#[]⟩, .bool false], .int .i64 5]) ?_ rfl ⟨rfl, four_set hbw (w.heap.size + 1 + 1) (by omega) _ _ _ _⟩
  simp [results, Tryd.results22, go_sem, r0, r1, r2, r3]
set_option maxHeartbeats 1000000 in
set_option maxRecDepth 100000 in
theorem rr_div0 (n : Int) (t : ByteArray) (b : Bool) (t' : ByteArray) (b' : Bool) (w : World) :
    Calls Tryd.prog 22 #[.int .u8 47, .agg #[.int .i64 1, .int .i64 n, .string t, .bool b], .agg #[.int .i64 1, .int .i64 0, .string t', .bool b']] w fun e w' => e = .returned (.tuple #[.agg #[.int .i64 0, .int .i64 0, .string ⟨#[]⟩, .bool false], .int .i64 6]) ∧ Below w.heap.size w w' := by
  have F0 := Lib.hid (fr2_start w 1 n t b 1 0 t' b' 23)
  go_enter Tryd.func22, Tryd.ntmps22
  go_wp2_with fail
  go_quiet (fail)
  have F1 := Lib.hid (F0.out.on (below_drewN (Below.refl _ _) nq))
  clear F0
  obtain ⟨⟨p0, p1, p2, p3⟩, ⟨q0, q1, q2, q3⟩, ⟨r0, r1, r2, r3⟩, ⟨f0, f1, f2, f3⟩, hbw, hsz⟩ := F1.out
  generalize hV : World.drewN _ nq = V at *
  clear hV
  go_wp2_with fail
  refine bodyPost_ret (v := .tuple #[.agg #[.int .i64 0, .int .i64 0, .string ⟨#[]⟩, .bool false], .int .i64 6]) ?_ rfl ⟨rfl, four_set hbw (w.heap.size + 1 + 1) (by omega) _ _ _ _⟩
  simp [results, Tryd.results22, go_sem, r0, r1, r2, r3]
set_option maxHeartbeats 1000000 in
set_option maxRecDepth 100000 in
theorem rr_mod0 (n : Int) (t : ByteArray) (b : Bool) (t' : ByteArray) (b' : Bool) (w : World) :
    Calls Tryd.prog 22 #[.int .u8 37, .agg #[.int .i64 1, .int .i64 n, .string t, .bool b], .agg #[.int .i64 1, .int .i64 0, .string t', .bool b']] w fun e w' => e = .returned (.tuple #[.agg #[.int .i64 0, .int .i64 0, .string ⟨#[]⟩, .bool false], .int .i64 6]) ∧ Below w.heap.size w w' := by
  have F0 := Lib.hid (fr2_start w 1 n t b 1 0 t' b' 23)
  go_enter Tryd.func22, Tryd.ntmps22
  go_wp2_with fail
  go_quiet (fail)
  have F1 := Lib.hid (F0.out.on (below_drewN (Below.refl _ _) nq))
  clear F0
  obtain ⟨⟨p0, p1, p2, p3⟩, ⟨q0, q1, q2, q3⟩, ⟨r0, r1, r2, r3⟩, ⟨f0, f1, f2, f3⟩, hbw, hsz⟩ := F1.out
  generalize hV : World.drewN _ nq = V at *
  clear hV
  go_wp2_with fail
  refine bodyPost_ret (v := .tuple #[.agg #[.int .i64 0, .int .i64 0, .string ⟨#[]⟩, .bool false], .int .i64 6]) ?_ rfl ⟨rfl, four_set hbw (w.heap.size + 1 + 1) (by omega) _ _ _ _⟩
  simp [results, Tryd.results22, go_sem, r0, r1, r2, r3]
set_option maxHeartbeats 1000000 in
set_option maxRecDepth 100000 in
theorem rr_mod1 (n : Int) (t : ByteArray) (b : Bool) (t' : ByteArray) (b' : Bool) (w : World) :
    Calls Tryd.prog 22 #[.int .u8 37, .agg #[.int .i64 1, .int .i64 n, .string t, .bool b], .agg #[.int .i64 1, .int .i64 (-1), .string t', .bool b']] w fun e w' => e = .returned (.tuple #[.agg #[.int .i64 1, .int .i64 0, .string ⟨#[]⟩, .bool false], .int .i64 0]) ∧ Below w.heap.size w w' := by
  have F0 := Lib.hid (fr2_start w 1 n t b 1 (-1) t' b' 23)
  have HI : Hid (∀ W, Calls Tryd.prog 47 #[.int .i64 0] W fun e w' => e = .returned (.agg #[.int .i64 1, .int .i64 0, .string ⟨#[]⟩, .bool false]) ∧ Below W.heap.size W w') := fun W => rint_ _ W
  go_enter Tryd.func22, Tryd.ntmps22
  go_wp2_with fail
  go_quiet (fail)
  have F1 := Lib.hid (F0.out.on (below_drewN (Below.refl _ _) nq))
  clear F0
  obtain ⟨⟨p0, p1, p2, p3⟩, ⟨q0, q1, q2, q3⟩, ⟨r0, r1, r2, r3⟩, ⟨f0, f1, f2, f3⟩, hbw, hsz⟩ := F1.out
  generalize hV : World.drewN _ nq = V at *
  clear hV
  go_wp2_with fail
  refine (HI.out _).mono ?_
  rintro e wl ⟨rfl, hbl⟩
  clear p0 p1 p2 p3 q0 q1 q2 q3 r0 r1 r2 r3 f0 f1 f2 f3 hbw hsz
  obtain ⟨⟨p0, p1, p2, p3⟩, ⟨q0, q1, q2, q3⟩, ⟨r0, r1, r2, r3⟩, ⟨f0, f1, f2, f3⟩, hbw, hsz⟩ := F1.out.on hbl
  go_wp2_with fail
  refine bodyPost_ret (v := .tuple #[.agg #[.int .i64 1, .int .i64 0, .string ⟨#[]⟩, .bool false], .int .i64 0]) ?_ rfl ⟨rfl, four_set hbw (w.heap.size + 1 + 1) (by omega) _ _ _ _⟩
  simp [results, Tryd.results22, go_sem, r0, r1, r2, r3]
set_option maxHeartbeats 1000000 in
set_option maxRecDepth 100000 in
theorem rr_div1_ok (n : Int) (t : ByteArray) (b : Bool) (t' : ByteArray) (b' : Bool) (w : World) (hx : (n != -9223372036854775808) = true) (hw : wrap64 (-n) = -n) :
    Calls Tryd.prog 22 #[.int .u8 47, .agg #[.int .i64 1, .int .i64 n, .string t, .bool b], .agg #[.int .i64 1, .int .i64 (-1), .string t', .bool b']] w fun e w' => e = .returned (.tuple #[.agg #[.int .i64 1, .int .i64 (-n), .string ⟨#[]⟩, .bool false], .int .i64 0]) ∧ Below w.heap.size w w' := by
  have F0 := Lib.hid (fr2_start w 1 n t b 1 (-1) t' b' 23)
  have HI : Hid (∀ W, Calls Tryd.prog 47 #[.int .i64 (-n)] W fun e w' => e = .returned (.agg #[.int .i64 1, .int .i64 (-n), .string ⟨#[]⟩, .bool false]) ∧ Below W.heap.size W w') := fun W => rint_ _ W
  go_enter Tryd.func22, Tryd.ntmps22
  go_wp2_with fail
  go_quiet (fail)
  have F1 := Lib.hid (F0.out.on (below_drewN (Below.refl _ _) nq))
  clear F0
  obtain ⟨⟨p0, p1, p2, p3⟩, ⟨q0, q1, q2, q3⟩, ⟨r0, r1, r2, r3⟩, ⟨f0, f1, f2, f3⟩, hbw, hsz⟩ := F1.out
  generalize hV : World.drewN _ nq = V at *
  clear hV
  go_wp2_with fail
  refine (HI.out _).mono ?_
  rintro e wl ⟨rfl, hbl⟩
  clear p0 p1 p2 p3 q0 q1 q2 q3 r0 r1 r2 r3 f0 f1 f2 f3 hbw hsz
  obtain ⟨⟨p0, p1, p2, p3⟩, ⟨q0, q1, q2, q3⟩, ⟨r0, r1, r2, r3⟩, ⟨f0, f1, f2, f3⟩, hbw, hsz⟩ := F1.out.on hbl
  go_wp2_with fail
  refine bodyPost_ret (v := .tuple #[.agg #[.int .i64 1, .int .i64 (-n), .string ⟨#[]⟩, .bool false], .int .i64 0]) ?_ rfl ⟨rfl, four_set hbw (w.heap.size + 1 + 1) (by omega) _ _ _ _⟩
  simp [results, Tryd.results22, go_sem, r0, r1, r2, r3]
set_option maxHeartbeats 1000000 in
set_option maxRecDepth 100000 in
theorem rr_div1_no (t : ByteArray) (b : Bool) (t' : ByteArray) (b' : Bool) (w : World) :
    Calls Tryd.prog 22 #[.int .u8 47, .agg #[.int .i64 1, .int .i64 (-9223372036854775808), .string t, .bool b], .agg #[.int .i64 1, .int .i64 (-1), .string t', .bool b']] w fun e w' => e = .returned (.tuple #[.agg #[.int .i64 0, .int .i64 0, .string ⟨#[]⟩, .bool false], .int .i64 5]) ∧ Below w.heap.size w w' := by
  have F0 := Lib.hid (fr2_start w 1 (-9223372036854775808) t b 1 (-1) t' b' 23)
  go_enter Tryd.func22, Tryd.ntmps22
  go_wp2_with fail
  go_quiet (fail)
  have F1 := Lib.hid (F0.out.on (below_drewN (Below.refl _ _) nq))
  clear F0
  obtain ⟨⟨p0, p1, p2, p3⟩, ⟨q0, q1, q2, q3⟩, ⟨r0, r1, r2, r3⟩, ⟨f0, f1, f2, f3⟩, hbw, hsz⟩ := F1.out
  generalize hV : World.drewN _ nq = V at *
  clear hV
  go_wp2_with fail
  refine bodyPost_ret (v := .tuple #[.agg #[.int .i64 0, .int .i64 0, .string ⟨#[]⟩, .bool false], .int .i64 5]) ?_ rfl ⟨rfl, four_set hbw (w.heap.size + 1 + 1) (by omega) _ _ _ _⟩
  simp [results, Tryd.results22, go_sem, r0, r1, r2, r3]
set_option maxHeartbeats 1000000 in
set_option maxRecDepth 100000 in
theorem rr_div (n : Int) (t : ByteArray) (b : Bool) (n' : Int) (t' : ByteArray) (b' : Bool) (w : World) (N : Int) (h0' : ¬ n' = 0) (h0 : (n' == 0) = false) (h1 : (n' == -1) = false) (hq : wrap64 (n.tdiv n') = N) :
    Calls Tryd.prog 22 #[.int .u8 47, .agg #[.int .i64 1, .int .i64 n, .string t, .bool b], .agg #[.int .i64 1, .int .i64 n', .string t', .bool b']] w fun e w' => e = .returned (.tuple #[.agg #[.int .i64 1, .int .i64 N, .string ⟨#[]⟩, .bool false], .int .i64 0]) ∧ Below w.heap.size w w' := by
  have F0 := Lib.hid (fr2_start w 1 n t b 1 n' t' b' 23)
  have HI : Hid (∀ W, Calls Tryd.prog 47 #[.int .i64 N] W fun e w' => e = .returned (.agg #[.int .i64 1, .int .i64 N, .string ⟨#[]⟩, .bool false]) ∧ Below W.heap.size W w') := fun W => rint_ _ W
  go_enter Tryd.func22, Tryd.ntmps22
  go_wp2_with fail
  go_quiet (fail)
  have F1 := Lib.hid (F0.out.on (below_drewN (Below.refl _ _) nq))
  clear F0
  obtain ⟨⟨p0, p1, p2, p3⟩, ⟨q0, q1, q2, q3⟩, ⟨r0, r1, r2, r3⟩, ⟨f0, f1, f2, f3⟩, hbw, hsz⟩ := F1.out
  generalize hV : World.drewN _ nq = V at *
  clear hV
  go_wp2_with fail
  refine (HI.out _).mono ?_
  rintro e wl ⟨rfl, hbl⟩
  clear p0 p1 p2 p3 q0 q1 q2 q3 r0 r1 r2 r3 f0 f1 f2 f3 hbw hsz
  obtain ⟨⟨p0, p1, p2, p3⟩, ⟨q0, q1, q2, q3⟩, ⟨r0, r1, r2, r3⟩, ⟨f0, f1, f2, f3⟩, hbw, hsz⟩ := F1.out.on hbl
  go_wp2_with fail
  refine bodyPost_ret (v := .tuple #[.agg #[.int .i64 1, .int .i64 N, .string ⟨#[]⟩, .bool false], .int .i64 0]) ?_ rfl ⟨rfl, four_set hbw (w.heap.size + 1 + 1) (by omega) _ _ _ _⟩
  simp [results, Tryd.results22, go_sem, r0, r1, r2, r3]
set_option maxHeartbeats 1000000 in
set_option maxRecDepth 100000 in
theorem rr_mod (n : Int) (t : ByteArray) (b : Bool) (n' : Int) (t' : ByteArray) (b' : Bool) (w : World) (N : Int) (h0' : ¬ n' = 0) (h0 : (n' == 0) = false) (h1 : (n' == -1) = false) (hq : n.tmod n' = N) :
    Calls Tryd.prog 22 #[.int .u8 37, .agg #[.int .i64 1, .int .i64 n, .string t, .bool b], .agg #[.int .i64 1, .int .i64 n', .string t', .bool b']] w fun e w' => e = .returned (.tuple #[.agg #[.int .i64 1, .int .i64 N, .string ⟨#[]⟩, .bool false], .int .i64 0]) ∧ Below w.heap.size w w' := by
  have F0 := Lib.hid (fr2_start w 1 n t b 1 n' t' b' 23)
  have HI : Hid (∀ W, Calls Tryd.prog 47 #[.int .i64 N] W fun e w' => e = .returned (.agg #[.int .i64 1, .int .i64 N, .string ⟨#[]⟩, .bool false]) ∧ Below W.heap.size W w') := fun W => rint_ _ W
  go_enter Tryd.func22, Tryd.ntmps22
  go_wp2_with fail
  go_quiet (fail)
  have F1 := Lib.hid (F0.out.on (below_drewN (Below.refl _ _) nq))
  clear F0
  obtain ⟨⟨p0, p1, p2, p3⟩, ⟨q0, q1, q2, q3⟩, ⟨r0, r1, r2, r3⟩, ⟨f0, f1, f2, f3⟩, hbw, hsz⟩ := F1.out
  generalize hV : World.drewN _ nq = V at *
  clear hV
  go_wp2_with fail
  refine (HI.out _).mono ?_
  rintro e wl ⟨rfl, hbl⟩
  clear p0 p1 p2 p3 q0 q1 q2 q3 r0 r1 r2 r3 f0 f1 f2 f3 hbw hsz
  obtain ⟨⟨p0, p1, p2, p3⟩, ⟨q0, q1, q2, q3⟩, ⟨r0, r1, r2, r3⟩, ⟨f0, f1, f2, f3⟩, hbw, hsz⟩ := F1.out.on hbl
  go_wp2_with fail
  refine bodyPost_ret (v := .tuple #[.agg #[.int .i64 1, .int .i64 N, .string ⟨#[]⟩, .bool false], .int .i64 0]) ?_ rfl ⟨rfl, four_set hbw (w.heap.size + 1 + 1) (by omega) _ _ _ _⟩
  simp [results, Tryd.results22, go_sem, r0, r1, r2, r3]
end Go.Proofs.YtfplncbechidnaaDoor
