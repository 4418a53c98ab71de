/- The walks of value.reckon, Reckon, Join. -/
import Derived.Test.YtfplncbechidnabDoorW6
namespace Go.Proofs.YtfplncbechidnabDoor
open Go.RowKit Go.Sort

theorem rk_43 (a b : Int) (w : World) (ha : inI a) (hb : inI b) : Calls Tryd.prog 17 #[.int .u8 43, .int .i64 a, .int .i64 b] w fun e w' => e = .returned (.tuple #[.int .i64 (ansN (reck 43 a b)), errV 37 (ansE (reck 43 a b))]) ∧ w' = w := by
  have HX : Hid (∀ W, Calls Tryd.prog 27 #[.int .i64 a, .int .i64 b, .int .i64 0] W fun e w' => e = .returned (.tuple #[.int .i64 (ansN (reck 43 a b)), errV 37 (ansE (reck 43 a b))]) ∧ w' = W) := fun W => sum0_ a b W ha hb
  generalize ansN (reck 43 a b) = N at *
  generalize errV 37 (ansE (reck 43 a b)) = E at *
  clear hb
  clear ha
  go_enter Tryd.func17, Tryd.ntmps17
  go_wp2_with fail
  refine (HX.out _).mono ?_
  rintro e w1 ⟨rfl, rfl⟩
  go_wp2_with fail
  exact bodyPost_ret (v := .tuple #[.int .i64 N, E]) (by simp [results, Tryd.results17, go_sem]) rfl ⟨rfl, rfl⟩
theorem rk_45 (a b : Int) (w : World) (ha : inI a) (hb : inI b) : Calls Tryd.prog 17 #[.int .u8 45, .int .i64 a, .int .i64 b] w fun e w' => e = .returned (.tuple #[.int .i64 (ansN (reck 45 a b)), errV 37 (ansE (reck 45 a b))]) ∧ w' = w := by
  have HX : Hid (∀ W, Calls Tryd.prog 27 #[.int .i64 a, .int .i64 (-b - 1), .int .i64 1] W fun e w' => e = .returned (.tuple #[.int .i64 (ansN (reck 45 a b)), errV 37 (ansE (reck 45 a b))]) ∧ w' = W) := fun W => sum1_ a b W ha hb
  generalize ansN (reck 45 a b) = N at *
  generalize errV 37 (ansE (reck 45 a b)) = E at *
  have hx := xor_not hb
  clear hb
  clear ha
  go_enter Tryd.func17, Tryd.ntmps17
  go_wp2_with fail
  refine (HX.out _).mono ?_
  rintro e w1 ⟨rfl, rfl⟩
  go_wp2_with fail
  exact bodyPost_ret (v := .tuple #[.int .i64 N, E]) (by simp [results, Tryd.results17, go_sem]) rfl ⟨rfl, rfl⟩
theorem rk_42 (a b : Int) (w : World) (ha : inI a) (hb : inI b) : Calls Tryd.prog 17 #[.int .u8 42, .int .i64 a, .int .i64 b] w fun e w' => e = .returned (.tuple #[.int .i64 (ansN (reck 42 a b)), errV 37 (ansE (reck 42 a b))]) ∧ w' = w := by
  have HX : Hid (∀ W, Calls Tryd.prog 28 #[.int .i64 a, .int .i64 b] W fun e w' => e = .returned (.tuple #[.int .i64 (ansN (reck 42 a b)), errV 37 (ansE (reck 42 a b))]) ∧ w' = W) := fun W => prod_ a b W ha hb
  generalize ansN (reck 42 a b) = N at *
  generalize errV 37 (ansE (reck 42 a b)) = E at *
  clear hb
  clear ha
  go_enter Tryd.func17, Tryd.ntmps17
  go_wp2_with fail
  refine (HX.out _).mono ?_
  rintro e w1 ⟨rfl, rfl⟩
  go_wp2_with fail
  exact bodyPost_ret (v := .tuple #[.int .i64 N, E]) (by simp [results, Tryd.results17, go_sem]) rfl ⟨rfl, rfl⟩
theorem rk_zero (op a : Int) (w : World) (hop : op = 47 ∨ op = 37) : Calls Tryd.prog 17 #[.int .u8 op, .int .i64 a, .int .i64 0] w fun e w' => e = .returned (.tuple #[.int .i64 0, .iface 37 (.int .i64 6)]) ∧ w' = w := by
  rcases hop with rfl | rfl
  all_goals
    go_enter Tryd.func17, Tryd.ntmps17
    go_wp2_with fail
    exact bodyPost_ret (v := .tuple #[.int .i64 0, .iface 37 (.int .i64 6)]) (by simp [results, Tryd.results17, go_sem]) rfl ⟨rfl, rfl⟩
theorem rk_mod (a b : Int) (w : World) (h0 : b ≠ 0) : Calls Tryd.prog 17 #[.int .u8 37, .int .i64 a, .int .i64 b] w fun e w' => e = .returned (.tuple #[.int .i64 (a.tmod b), .nilIface]) ∧ w' = w := by
  have h1 : (b == 0) = false := by simpa using h0
  go_enter Tryd.func17, Tryd.ntmps17
  go_wp2_with fail
  exact bodyPost_ret (v := .tuple #[.int .i64 (a.tmod b), .nilIface]) (by simp [results, Tryd.results17, go_sem]) rfl ⟨rfl, rfl⟩
theorem rk_over (w : World) : Calls Tryd.prog 17 #[.int .u8 47, .int .i64 (-9223372036854775808), .int .i64 (-1)] w fun e w' => e = .returned (.tuple #[.int .i64 0, .iface 37 (.int .i64 5)]) ∧ w' = w := by
  have HX := Lib.hid quo_over
  go_enter Tryd.func17, Tryd.ntmps17
  go_wp2_with fail
  refine (HX.out _).mono ?_
  rintro e w1 ⟨rfl, rfl⟩
  go_wp2_with fail
  exact bodyPost_ret (v := .tuple #[.int .i64 0, .iface 37 (.int .i64 5)]) (by simp [results, Tryd.results17, go_sem]) rfl ⟨rfl, rfl⟩
theorem rk_div (a b : Int) (w : World) (ha : inI a) (h0 : b ≠ 0) (h : ¬ (a = -9223372036854775808 ∧ b = -1)) : Calls Tryd.prog 17 #[.int .u8 47, .int .i64 a, .int .i64 b] w fun e w' => e = .returned (.tuple #[.int .i64 (a.tdiv b), .nilIface]) ∧ w' = w := by
  have HX : Hid (∀ W, Calls Tryd.prog 29 #[.int .i64 a, .int .i64 b] W fun e w' => e = .returned (.tuple #[.int .i64 (a.tdiv b), .nilIface]) ∧ w' = W) := fun W => quo_ok a b W ha h0 h
  generalize a.tdiv b = N at *
  clear ha h
  go_enter Tryd.func17, Tryd.ntmps17
  go_wp2_with fail
  refine (HX.out _).mono ?_
  rintro e w1 ⟨rfl, rfl⟩
  go_wp2_with fail
  exact bodyPost_ret (v := .tuple #[.int .i64 N, .nilIface]) (by simp [results, Tryd.results17, go_sem]) rfl ⟨rfl, rfl⟩
def isOp (op : Int) : Prop := op = 43 ∨ op = 45 ∨ op = 42 ∨ op = 47 ∨ op = 37
theorem rk_ (op a b : Int) (w : World) (hop : isOp op) (ha : inI a) (hb : inI b) : Calls Tryd.prog 17 #[.int .u8 op, .int .i64 a, .int .i64 b] w fun e w' => e = .returned (.tuple #[.int .i64 (ansN (reck op a b)), errV 37 (ansE (reck op a b))]) ∧ w' = w := by
  rcases hop with rfl | rfl | rfl | hop
  · exact rk_43 a b w ha hb
  · exact rk_45 a b w ha hb
  · exact rk_42 a b w ha hb
  · by_cases h0 : b = 0
    · subst h0
      have e : reck op a 0 = .error 6 := by rcases hop with rfl | rfl <;> rfl
      rw [e]
      exact rk_zero op a w hop
    · rcases hop with rfl | rfl
      · by_cases h : a = -9223372036854775808 ∧ b = -1
        · obtain ⟨rfl, rfl⟩ := h
          have e : reck 47 (-9223372036854775808) (-1) = .error 5 := by show keep (Int.tdiv (-9223372036854775808) (-1)) = _; rw [keep, if_neg (by rw [tdiv_neg1]; unfold inI; omega)]
          rw [e]
          exact rk_over w
        · have e : reck 47 a b = .ok (a.tdiv b) := by simp [reck, h0, keep, quot_in ha h0 h]
          rw [e]
          exact rk_div a b w ha h0 h
      · have e : reck 37 a b = .ok (a.tmod b) := by simp [reck, h0]
        rw [e]
        exact rk_mod a b w h0
/-- Which op it is. -/
def opIx (op : Int) : Int := Lib.indexByte [43, 45, 42, 47, 37] op.toNat.toUInt8
theorem opIx_iff {op : Int} (h0 : 0 ≤ op) (h1 : op ≤ 255) : (opIx op < 0 ↔ ¬ isOp op) := by
  obtain ⟨n, rfl⟩ := Int.eq_ofNat_of_zero_le h0
  have hn : n < 256 := by omega
  have key : ∀ m : Nat, m < 256 → (opIx (m : Int) < 0 ↔ ¬ ((m : Int) = 43 ∨ (m : Int) = 45 ∨ (m : Int) = 42 ∨ (m : Int) = 47 ∨ (m : Int) = 37)) := by decide +kernel
  exact key n hn
theorem ix_ (op : Int) (w : World) : Calls Tryd.prog 14 #[.string ⟨#[43, 45, 42, 47, 37]⟩, .int .u8 op] w fun e w' => e = .returned (.int .i64 (opIx op)) ∧ w' = w := Tryd.strings_IndexByte ⟨#[43, 45, 42, 47, 37]⟩ op w
theorem reckon_form (op : Int) (k n : Int) (t : ByteArray) (b : Bool) (k' n' : Int) (t' : ByteArray) (b' : Bool) (w : World) (hop : opIx op < 0) :
    Calls Tryd.prog 6 #[.int .u8 op, .agg #[.int .i64 k, .int .i64 n, .string t, .bool b], .agg #[.int .i64 k', .int .i64 n', .string t', .bool b']] w fun e w' => e = .returned (.tuple #[.agg #[.int .i64 0, .int .i64 0, .string ⟨#[]⟩, .bool false], .iface 37 (.int .i64 3)]) ∧ Below w.heap.size w w' := by
  have HI : Hid (∀ W, Calls Tryd.prog 14 #[.string ⟨#[43, 45, 42, 47, 37]⟩, .int .u8 op] W fun e w' => e = .returned (.int .i64 (opIx op)) ∧ Below W.heap.size W w') := fun W => (ix_ op W).mono fun e w' ⟨h1, h2⟩ => ⟨h1, h2 ▸ Below.refl _ _⟩
  generalize opIx op = i at *
  have F0 := Lib.hid (fr2_start w k n t b k' n' t' b' 23)
  go_enter Tryd.func6, Tryd.ntmps6
  go_wp2_with fail
  refine (HI.out _).mono ?_
  rintro e w1 ⟨rfl, hb1⟩
  have F1 := Lib.hid (F0.out.on hb1)
  clear F0 hb1
  obtain ⟨⟨p0, p1, p2, p3⟩, ⟨q0, q1, q2, q3⟩, ⟨r0, r1, r2, r3⟩, ⟨f0, f1, f2, f3⟩, hbw, hsz⟩ := F1.out
  go_wp2_with fail
  refine bodyPost_ret (v := .tuple #[.agg #[.int .i64 0, .int .i64 0, .string ⟨#[]⟩, .bool false], .iface 37 (.int .i64 3)]) ?_ rfl ⟨rfl, four_set hbw (w.heap.size + 1 + 1) (by omega) _ _ _ _⟩
  simp [results, Tryd.results6, go_sem, r0, r1, r2, r3]

theorem reckon_kind (op : Int) (k n : Int) (t : ByteArray) (b : Bool) (k' n' : Int) (t' : ByteArray) (b' : Bool) (w : World) (hop : ¬ opIx op < 0) (h : (isK 1 k && isK 1 k') = false) :
    Calls Tryd.prog 6 #[.int .u8 op, .agg #[.int .i64 k, .int .i64 n, .string t, .bool b], .agg #[.int .i64 k', .int .i64 n', .string t', .bool b']] w fun e w' => e = .returned (.tuple #[.agg #[.int .i64 0, .int .i64 0, .string ⟨#[]⟩, .bool false], .iface 37 (.int .i64 7)]) ∧ Below w.heap.size w w' := by
  have HI : Hid (∀ W, Calls Tryd.prog 14 #[.string ⟨#[43, 45, 42, 47, 37]⟩, .int .u8 op] W fun e w' => e = .returned (.int .i64 (opIx op)) ∧ Below W.heap.size W w') := fun W => (ix_ op W).mono fun e w' ⟨h1, h2⟩ => ⟨h1, h2 ▸ Below.refl _ _⟩
  have HN : Hid (∀ (W : World) (B : Nat), W.heap.size = B → Calls Tryd.prog 15 #[.int .i64 1, .slice (some ⟨B, 0, none⟩) 2 2] (W.alloc (.cells #[.int .i64 k, .int .i64 n, .string t, .bool b, .int .i64 k', .int .i64 n', .string t', .bool b'] 23)) fun e w' => e = .returned (.bool false) ∧ Below W.heap.size W w') := fun W B hB => by rw [← h]; exact are2n_ 1 k n t b k' n' t' b' W B hB
  generalize opIx op = i at *
  clear h
  have F0 := Lib.hid (fr2_start w k n t b k' n' t' b' 23)
  go_enter Tryd.func6, Tryd.ntmps6
  go_wp2_with fail
  refine (HI.out _).mono ?_
  rintro e w1 ⟨rfl, hb1⟩
  have F1 := Lib.hid (F0.out.on hb1)
  clear F0 hb1
  obtain ⟨⟨p0, p1, p2, p3⟩, ⟨q0, q1, q2, q3⟩, ⟨r0, r1, r2, r3⟩, ⟨f0, f1, f2, f3⟩, hbw, hsz⟩ := F1.out
  go_wp2_with fail
  refine (HN.out _ _ (by first | rfl | simp)).mono ?_
  rintro e w2 ⟨rfl, hb2⟩
  have F2 := Lib.hid (F1.out.on hb2)
  clear F1 hb2
  clear p0 p1 p2 p3 q0 q1 q2 q3 r0 r1 r2 r3 f0 f1 f2 f3 hbw hsz
  obtain ⟨⟨p0, p1, p2, p3⟩, ⟨q0, q1, q2, q3⟩, ⟨r0, r1, r2, r3⟩, ⟨f0, f1, f2, f3⟩, hbw, hsz⟩ := F2.out
  go_wp2_with fail
  refine bodyPost_ret (v := .tuple #[.agg #[.int .i64 0, .int .i64 0, .string ⟨#[]⟩, .bool false], .iface 37 (.int .i64 7)]) ?_ rfl ⟨rfl, four_set hbw (w.heap.size + 1 + 1) (by omega) _ _ _ _⟩
  simp [results, Tryd.results6, go_sem, r0, r1, r2, r3]

theorem reckon_null (op : Int) (k n : Int) (t : ByteArray) (b : Bool) (k' n' : Int) (t' : ByteArray) (b' : Bool) (w : World) (hop : ¬ opIx op < 0) (h : (isK 1 k && isK 1 k') = true) (h1 : one0 k k' = true) :
    Calls Tryd.prog 6 #[.int .u8 op, .agg #[.int .i64 k, .int .i64 n, .string t, .bool b], .agg #[.int .i64 k', .int .i64 n', .string t', .bool b']] w fun e w' => e = .returned (.tuple #[.agg #[.int .i64 0, .int .i64 0, .string ⟨#[]⟩, .bool false], .nilIface]) ∧ Below w.heap.size w w' := by
  have HI : Hid (∀ W, Calls Tryd.prog 14 #[.string ⟨#[43, 45, 42, 47, 37]⟩, .int .u8 op] W fun e w' => e = .returned (.int .i64 (opIx op)) ∧ Below W.heap.size W w') := fun W => (ix_ op W).mono fun e w' ⟨h1, h2⟩ => ⟨h1, h2 ▸ Below.refl _ _⟩
  have HN : Hid (∀ (W : World) (B : Nat), W.heap.size = B → Calls Tryd.prog 15 #[.int .i64 1, .slice (some ⟨B, 0, none⟩) 2 2] (W.alloc (.cells #[.int .i64 k, .int .i64 n, .string t, .bool b, .int .i64 k', .int .i64 n', .string t', .bool b'] 23)) fun e w' => e = .returned (.bool true) ∧ Below W.heap.size W w') := fun W B hB => by rw [← h]; exact are2n_ 1 k n t b k' n' t' b' W B hB
  have HO : Hid (∀ W, Calls Tryd.prog 16 #[.agg #[.int .i64 k, .int .i64 n, .string t, .bool b], .agg #[.int .i64 k', .int .i64 n', .string t', .bool b']] W fun e w' => e = .returned (.bool true) ∧ Below W.heap.size W w') := fun W => by rw [← h1]; exact oneNull_ k n t b k' n' t' b' W
  have HNU : Hid (∀ W, Calls Tryd.prog 10 #[] W fun e w' => e = .returned (.agg #[.int .i64 0, .int .i64 0, .string ⟨#[]⟩, .bool false]) ∧ Below W.heap.size W w') := fun W => null_ W
  generalize opIx op = i at *
  clear h h1
  have F0 := Lib.hid (fr2_start w k n t b k' n' t' b' 23)
  go_enter Tryd.func6, Tryd.ntmps6
  go_wp2_with fail
  refine (HI.out _).mono ?_
  rintro e w1 ⟨rfl, hb1⟩
  have F1 := Lib.hid (F0.out.on hb1)
  clear F0 hb1
  obtain ⟨⟨p0, p1, p2, p3⟩, ⟨q0, q1, q2, q3⟩, ⟨r0, r1, r2, r3⟩, ⟨f0, f1, f2, f3⟩, hbw, hsz⟩ := F1.out
  go_wp2_with fail
  refine (HN.out _ _ (by first | rfl | simp)).mono ?_
  rintro e w2 ⟨rfl, hb2⟩
  have F2 := Lib.hid (F1.out.on hb2)
  clear F1 hb2
  clear p0 p1 p2 p3 q0 q1 q2 q3 r0 r1 r2 r3 f0 f1 f2 f3 hbw hsz
  obtain ⟨⟨p0, p1, p2, p3⟩, ⟨q0, q1, q2, q3⟩, ⟨r0, r1, r2, r3⟩, ⟨f0, f1, f2, f3⟩, hbw, hsz⟩ := F2.out
  go_wp2_with fail
  refine (HO.out _).mono ?_
  rintro e w3 ⟨rfl, hb3⟩
  have F3 := Lib.hid (F2.out.on hb3)
  clear F2 hb3
  clear p0 p1 p2 p3 q0 q1 q2 q3 r0 r1 r2 r3 f0 f1 f2 f3 hbw hsz
  obtain ⟨⟨p0, p1, p2, p3⟩, ⟨q0, q1, q2, q3⟩, ⟨r0, r1, r2, r3⟩, ⟨f0, f1, f2, f3⟩, hbw, hsz⟩ := F3.out
  go_wp2_with fail
  refine (HNU.out _).mono ?_
  rintro e w4 ⟨rfl, hb4⟩
  have F4 := Lib.hid (F3.out.on hb4)
  clear F3 hb4
  clear p0 p1 p2 p3 q0 q1 q2 q3 r0 r1 r2 r3 f0 f1 f2 f3 hbw hsz
  obtain ⟨⟨p0, p1, p2, p3⟩, ⟨q0, q1, q2, q3⟩, ⟨r0, r1, r2, r3⟩, ⟨f0, f1, f2, f3⟩, hbw, hsz⟩ := F4.out
  go_wp2_with fail
  refine bodyPost_ret (v := .tuple #[.agg #[.int .i64 0, .int .i64 0, .string ⟨#[]⟩, .bool false], .nilIface]) ?_ rfl ⟨rfl, four_set hbw (w.heap.size + 1 + 1) (by omega) _ _ _ _⟩
  simp [results, Tryd.results6, go_sem, r0, r1, r2, r3]

set_option maxHeartbeats 800000 in
theorem reckon_err (op : Int) (k n : Int) (t : ByteArray) (b : Bool) (k' n' : Int) (t' : ByteArray) (b' : Bool) (w : World) (x : Int) (hop : ¬ opIx op < 0) (h : (isK 1 k && isK 1 k') = true) (h1 : one0 k k' = false)
    (hr : ∀ W, Calls Tryd.prog 17 #[.int .u8 op, .int .i64 n, .int .i64 n'] W fun e w' => e = .returned (.tuple #[.int .i64 0, .iface 37 (.int .i64 x)]) ∧ w' = W) :
    Calls Tryd.prog 6 #[.int .u8 op, .agg #[.int .i64 k, .int .i64 n, .string t, .bool b], .agg #[.int .i64 k', .int .i64 n', .string t', .bool b']] w fun e w' => e = .returned (.tuple #[.agg #[.int .i64 0, .int .i64 0, .string ⟨#[]⟩, .bool false], .iface 37 (.int .i64 x)]) ∧ Below w.heap.size w w' := by
  have HI : Hid (∀ W, Calls Tryd.prog 14 #[.string ⟨#[43, 45, 42, 47, 37]⟩, .int .u8 op] W fun e w' => e = .returned (.int .i64 (opIx op)) ∧ Below W.heap.size W w') := fun W => (ix_ op W).mono fun e w' ⟨h1, h2⟩ => ⟨h1, h2 ▸ Below.refl _ _⟩
  have HN : Hid (∀ (W : World) (B : Nat), W.heap.size = B → Calls Tryd.prog 15 #[.int .i64 1, .slice (some ⟨B, 0, none⟩) 2 2] (W.alloc (.cells #[.int .i64 k, .int .i64 n, .string t, .bool b, .int .i64 k', .int .i64 n', .string t', .bool b'] 23)) fun e w' => e = .returned (.bool true) ∧ Below W.heap.size W w') := fun W B hB => by rw [← h]; exact are2n_ 1 k n t b k' n' t' b' W B hB
  have HO : Hid (∀ W, Calls Tryd.prog 16 #[.agg #[.int .i64 k, .int .i64 n, .string t, .bool b], .agg #[.int .i64 k', .int .i64 n', .string t', .bool b']] W fun e w' => e = .returned (.bool false) ∧ Below W.heap.size W w') := fun W => by rw [← h1]; exact oneNull_ k n t b k' n' t' b' W
  have HR : Hid (∀ W, Calls Tryd.prog 17 #[.int .u8 op, .int .i64 n, .int .i64 n'] W fun e w' => e = .returned (.tuple #[.int .i64 0, .iface 37 (.int .i64 x)]) ∧ Below W.heap.size W w') := fun W => (hr W).mono fun e w' ⟨h1, h2⟩ => ⟨h1, h2 ▸ Below.refl _ _⟩
  generalize opIx op = i at *
  clear h h1 hr
  have F0 := Lib.hid (fr2_start w k n t b k' n' t' b' 23)
  go_enter Tryd.func6, Tryd.ntmps6
  go_wp2_with fail
  refine (HI.out _).mono ?_
  rintro e w1 ⟨rfl, hb1⟩
  have F1 := Lib.hid (F0.out.on hb1)
  clear F0 hb1
  obtain ⟨⟨p0, p1, p2, p3⟩, ⟨q0, q1, q2, q3⟩, ⟨r0, r1, r2, r3⟩, ⟨f0, f1, f2, f3⟩, hbw, hsz⟩ := F1.out
  go_wp2_with fail
  refine (HN.out _ _ (by first | rfl | simp)).mono ?_
  rintro e w2 ⟨rfl, hb2⟩
  have F2 := Lib.hid (F1.out.on hb2)
  clear F1 hb2
  clear p0 p1 p2 p3 q0 q1 q2 q3 r0 r1 r2 r3 f0 f1 f2 f3 hbw hsz
  obtain ⟨⟨p0, p1, p2, p3⟩, ⟨q0, q1, q2, q3⟩, ⟨r0, r1, r2, r3⟩, ⟨f0, f1, f2, f3⟩, hbw, hsz⟩ := F2.out
  go_wp2_with fail
  refine (HO.out _).mono ?_
  rintro e w3 ⟨rfl, hb3⟩
  have F3 := Lib.hid (F2.out.on hb3)
  clear F2 hb3
  clear p0 p1 p2 p3 q0 q1 q2 q3 r0 r1 r2 r3 f0 f1 f2 f3 hbw hsz
  obtain ⟨⟨p0, p1, p2, p3⟩, ⟨q0, q1, q2, q3⟩, ⟨r0, r1, r2, r3⟩, ⟨f0, f1, f2, f3⟩, hbw, hsz⟩ := F3.out
  go_wp2_with fail
  refine (HR.out _).mono ?_
  rintro e w4 ⟨rfl, hb4⟩
  have F4 := Lib.hid (F3.out.on hb4)
  clear F3 hb4
  clear p0 p1 p2 p3 q0 q1 q2 q3 r0 r1 r2 r3 f0 f1 f2 f3 hbw hsz
  obtain ⟨⟨p0, p1, p2, p3⟩, ⟨q0, q1, q2, q3⟩, ⟨r0, r1, r2, r3⟩, ⟨f0, f1, f2, f3⟩, hbw, hsz⟩ := F4.out
  go_wp2_with fail
  refine bodyPost_ret (v := .tuple #[.agg #[.int .i64 0, .int .i64 0, .string ⟨#[]⟩, .bool false], .iface 37 (.int .i64 x)]) ?_ rfl ⟨rfl, four_set hbw (w.heap.size + 1 + 1) (by omega) _ _ _ _⟩
  simp [results, Tryd.results6, go_sem, r0, r1, r2, r3]

set_option maxHeartbeats 800000 in
theorem reckon_ok (op : Int) (k n : Int) (t : ByteArray) (b : Bool) (k' n' : Int) (t' : ByteArray) (b' : Bool) (w : World) (N : Int) (hop : ¬ opIx op < 0) (h : (isK 1 k && isK 1 k') = true) (h1 : one0 k k' = false)
    (hr : ∀ W, Calls Tryd.prog 17 #[.int .u8 op, .int .i64 n, .int .i64 n'] W fun e w' => e = .returned (.tuple #[.int .i64 N, .nilIface]) ∧ w' = W) :
    Calls Tryd.prog 6 #[.int .u8 op, .agg #[.int .i64 k, .int .i64 n, .string t, .bool b], .agg #[.int .i64 k', .int .i64 n', .string t', .bool b']] w fun e w' => e = .returned (.tuple #[.agg #[.int .i64 1, .int .i64 N, .string ⟨#[]⟩, .bool false], .nilIface]) ∧ Below w.heap.size w w' := by
  have HI : Hid (∀ W, Calls Tryd.prog 14 #[.string ⟨#[43, 45, 42, 47, 37]⟩, .int .u8 op] W fun e w' => e = .returned (.int .i64 (opIx op)) ∧ Below W.heap.size W w') := fun W => (ix_ op W).mono fun e w' ⟨h1, h2⟩ => ⟨h1, h2 ▸ Below.refl _ _⟩
  have HN : Hid (∀ (W : World) (B : Nat), W.heap.size = B → Calls Tryd.prog 15 #[.int .i64 1, .slice (some ⟨B, 0, none⟩) 2 2] (W.alloc (.cells #[.int .i64 k, .int .i64 n, .string t, .bool b, .int .i64 k', .int .i64 n', .string t', .bool b'] 23)) fun e w' => e = .returned (.bool true) ∧ Below W.heap.size W w') := fun W B hB => by rw [← h]; exact are2n_ 1 k n t b k' n' t' b' W B hB
  have HO : Hid (∀ W, Calls Tryd.prog 16 #[.agg #[.int .i64 k, .int .i64 n, .string t, .bool b], .agg #[.int .i64 k', .int .i64 n', .string t', .bool b']] W fun e w' => e = .returned (.bool false) ∧ Below W.heap.size W w') := fun W => by rw [← h1]; exact oneNull_ k n t b k' n' t' b' W
  have HR : Hid (∀ W, Calls Tryd.prog 17 #[.int .u8 op, .int .i64 n, .int .i64 n'] W fun e w' => e = .returned (.tuple #[.int .i64 N, .nilIface]) ∧ Below W.heap.size W w') := fun W => (hr W).mono fun e w' ⟨h1, h2⟩ => ⟨h1, h2 ▸ Below.refl _ _⟩
  have HIn : Hid (∀ W, Calls Tryd.prog 5 #[.int .i64 N] W fun e w' => e = .returned (.agg #[.int .i64 1, .int .i64 N, .string ⟨#[]⟩, .bool false]) ∧ Below W.heap.size W w') := fun W => int_ N W
  generalize opIx op = i at *
  clear h h1 hr
  have F0 := Lib.hid (fr2_start w k n t b k' n' t' b' 23)
  go_enter Tryd.func6, Tryd.ntmps6
  go_wp2_with fail
  refine (HI.out _).mono ?_
  rintro e w1 ⟨rfl, hb1⟩
  have F1 := Lib.hid (F0.out.on hb1)
  clear F0 hb1
  obtain ⟨⟨p0, p1, p2, p3⟩, ⟨q0, q1, q2, q3⟩, ⟨r0, r1, r2, r3⟩, ⟨f0, f1, f2, f3⟩, hbw, hsz⟩ := F1.out
  go_wp2_with fail
  refine (HN.out _ _ (by first | rfl | simp)).mono ?_
  rintro e w2 ⟨rfl, hb2⟩
  have F2 := Lib.hid (F1.out.on hb2)
  clear F1 hb2
  clear p0 p1 p2 p3 q0 q1 q2 q3 r0 r1 r2 r3 f0 f1 f2 f3 hbw hsz
  obtain ⟨⟨p0, p1, p2, p3⟩, ⟨q0, q1, q2, q3⟩, ⟨r0, r1, r2, r3⟩, ⟨f0, f1, f2, f3⟩, hbw, hsz⟩ := F2.out
  go_wp2_with fail
  refine (HO.out _).mono ?_
  rintro e w3 ⟨rfl, hb3⟩
  have F3 := Lib.hid (F2.out.on hb3)
  clear F2 hb3
  clear p0 p1 p2 p3 q0 q1 q2 q3 r0 r1 r2 r3 f0 f1 f2 f3 hbw hsz
  obtain ⟨⟨p0, p1, p2, p3⟩, ⟨q0, q1, q2, q3⟩, ⟨r0, r1, r2, r3⟩, ⟨f0, f1, f2, f3⟩, hbw, hsz⟩ := F3.out
  go_wp2_with fail
  refine (HR.out _).mono ?_
  rintro e w4 ⟨rfl, hb4⟩
  have F4 := Lib.hid (F3.out.on hb4)
  clear F3 hb4
  clear p0 p1 p2 p3 q0 q1 q2 q3 r0 r1 r2 r3 f0 f1 f2 f3 hbw hsz
  obtain ⟨⟨p0, p1, p2, p3⟩, ⟨q0, q1, q2, q3⟩, ⟨r0, r1, r2, r3⟩, ⟨f0, f1, f2, f3⟩, hbw, hsz⟩ := F4.out
  go_wp2_with fail
  refine (HIn.out _).mono ?_
  rintro e w5 ⟨rfl, hb5⟩
  have F5 := Lib.hid (F4.out.on hb5)
  clear F4 hb5
  clear p0 p1 p2 p3 q0 q1 q2 q3 r0 r1 r2 r3 f0 f1 f2 f3 hbw hsz
  obtain ⟨⟨p0, p1, p2, p3⟩, ⟨q0, q1, q2, q3⟩, ⟨r0, r1, r2, r3⟩, ⟨f0, f1, f2, f3⟩, hbw, hsz⟩ := F5.out
  go_wp2_with fail
  refine bodyPost_ret (v := .tuple #[.agg #[.int .i64 1, .int .i64 N, .string ⟨#[]⟩, .bool false], .nilIface]) ?_ rfl ⟨rfl, four_set hbw (w.heap.size + 1 + 1) (by omega) _ _ _ _⟩
  simp [results, Tryd.results6, go_sem, r0, r1, r2, r3]

/-- What Reckon answers. -/
def rkE (op : Int) (a b : Val) : Int := if opIx op < 0 then 3 else if (isK 1 a.k && isK 1 b.k) = false then 7 else if one0 a.k b.k = true then 0 else ansE (reck op a.n b.n)
def rkR (op : Int) (a b : Val) : Val := if opIx op < 0 then vNull else if (isK 1 a.k && isK 1 b.k) = false then vNull else if one0 a.k b.k = true then vNull else match reck op a.n b.n with
  | .ok n => vInt n
  | .error _ => vNull
theorem reck_err_pos {op a b : Int} {x : Int} (h : reck op a b = .error x) : x = 5 ∨ x = 6 := by
  unfold reck keep at h
  (repeat' split at h) <;> simp at h <;> omega
theorem reckon_ (op : Int) (k n : Int) (t : ByteArray) (b : Bool) (k' n' : Int) (t' : ByteArray) (b' : Bool) (w : World) (h0 : 0 ≤ op) (h1 : op ≤ 255) (hn : inI n) (hn' : inI n') :
    Calls Tryd.prog 6 #[.int .u8 op, .agg #[.int .i64 k, .int .i64 n, .string t, .bool b], .agg #[.int .i64 k', .int .i64 n', .string t', .bool b']] w fun e w' => e = .returned (.tuple #[agV (rkR op ⟨k, n, t, b⟩ ⟨k', n', t', b'⟩), errV 37 (rkE op ⟨k, n, t, b⟩ ⟨k', n', t', b'⟩)]) ∧ Below w.heap.size w w' := by
  by_cases hop : opIx op < 0
  · refine (reckon_form op k n t b k' n' t' b' w hop).mono fun e w' ⟨he, hb⟩ => ⟨he.trans ?_, hb⟩
    simp [rkR, rkE, hop, agV, errV, vNull]
  have his : isOp op := Classical.byContradiction fun h => hop ((opIx_iff h0 h1).2 h)
  cases h : (isK 1 k && isK 1 k')
  · refine (reckon_kind op k n t b k' n' t' b' w hop h).mono fun e w' ⟨he, hb⟩ => ⟨he.trans ?_, hb⟩
    simp [rkR, rkE, hop, h, agV, errV, vNull]
  cases h1 : one0 k k'
  · have hr := fun W => rk_ op n n' W his hn hn'
    cases hk : reck op n n' with
    | ok N =>
      simp only [hk, ansN, ansE] at hr
      refine (reckon_ok op k n t b k' n' t' b' w N hop h h1 hr).mono fun e w' ⟨he, hb⟩ => ⟨he.trans ?_, hb⟩
      simp [rkR, rkE, hop, h, h1, hk, ansE, agV, errV, vInt]
    | error x =>
      have hx := reck_err_pos hk
      have hx0 : x ≠ 0 := by omega
      simp only [hk, ansN, ansE, errV, if_neg hx0] at hr
      refine (reckon_err op k n t b k' n' t' b' w x hop h h1 hr).mono fun e w' ⟨he, hb⟩ => ⟨he.trans ?_, hb⟩
      simp [rkR, rkE, hop, h, h1, hk, ansE, agV, errV, vNull, hx0]
  · refine (reckon_null op k n t b k' n' t' b' w hop h h1).mono fun e w' ⟨he, hb⟩ => ⟨he.trans ?_, hb⟩
    simp [rkR, rkE, hop, h, h1, agV, errV, vNull]
theorem join_kind (k n : Int) (t : ByteArray) (b : Bool) (k' n' : Int) (t' : ByteArray) (b' : Bool) (w : World) (h : (isK 2 k && isK 2 k') = false) :
    Calls Tryd.prog 13 #[.agg #[.int .i64 k, .int .i64 n, .string t, .bool b], .agg #[.int .i64 k', .int .i64 n', .string t', .bool b']] w fun e w' => e = .returned (.tuple #[.agg #[.int .i64 0, .int .i64 0, .string ⟨#[]⟩, .bool false], .iface 37 (.int .i64 7)]) ∧ Below w.heap.size w w' := by
  have HN : Hid (∀ (W : World) (B : Nat), W.heap.size = B → Calls Tryd.prog 15 #[.int .i64 2, .slice (some ⟨B, 0, none⟩) 2 2] (W.alloc (.cells #[.int .i64 k, .int .i64 n, .string t, .bool b, .int .i64 k', .int .i64 n', .string t', .bool b'] 23)) fun e w' => e = .returned (.bool false) ∧ Below W.heap.size W w') := fun W B hB => by rw [← h]; exact are2n_ 2 k n t b k' n' t' b' W B hB
  clear h
  have F0 := Lib.hid (fr2_start w k n t b k' n' t' b' 23)
  go_enter Tryd.func13, Tryd.ntmps13
  go_wp2_with fail
  refine (HN.out _ _ (by first | rfl | simp)).mono ?_
  rintro e w1 ⟨rfl, hb1⟩
  have F1 := Lib.hid (F0.out.on hb1)
  clear F0 hb1
  obtain ⟨⟨p0, p1, p2, p3⟩, ⟨q0, q1, q2, q3⟩, ⟨r0, r1, r2, r3⟩, ⟨f0, f1, f2, f3⟩, hbw, hsz⟩ := F1.out
  go_wp2_with fail
  refine bodyPost_ret (v := .tuple #[.agg #[.int .i64 0, .int .i64 0, .string ⟨#[]⟩, .bool false], .iface 37 (.int .i64 7)]) ?_ rfl ⟨rfl, four_set hbw (w.heap.size + 1 + 1) (by omega) _ _ _ _⟩
  simp [results, Tryd.results13, go_sem, r0, r1, r2, r3]

theorem join_null (k n : Int) (t : ByteArray) (b : Bool) (k' n' : Int) (t' : ByteArray) (b' : Bool) (w : World) (h : (isK 2 k && isK 2 k') = true) (h1 : one0 k k' = true) :
    Calls Tryd.prog 13 #[.agg #[.int .i64 k, .int .i64 n, .string t, .bool b], .agg #[.int .i64 k', .int .i64 n', .string t', .bool b']] w fun e w' => e = .returned (.tuple #[.agg #[.int .i64 0, .int .i64 0, .string ⟨#[]⟩, .bool false], .nilIface]) ∧ Below w.heap.size w w' := by
  have HN : Hid (∀ (W : World) (B : Nat), W.heap.size = B → Calls Tryd.prog 15 #[.int .i64 2, .slice (some ⟨B, 0, none⟩) 2 2] (W.alloc (.cells #[.int .i64 k, .int .i64 n, .string t, .bool b, .int .i64 k', .int .i64 n', .string t', .bool b'] 23)) fun e w' => e = .returned (.bool true) ∧ Below W.heap.size W w') := fun W B hB => by rw [← h]; exact are2n_ 2 k n t b k' n' t' b' W B hB
  have HO : Hid (∀ W, Calls Tryd.prog 16 #[.agg #[.int .i64 k, .int .i64 n, .string t, .bool b], .agg #[.int .i64 k', .int .i64 n', .string t', .bool b']] W fun e w' => e = .returned (.bool true) ∧ Below W.heap.size W w') := fun W => by rw [← h1]; exact oneNull_ k n t b k' n' t' b' W
  have HNU : Hid (∀ W, Calls Tryd.prog 10 #[] W fun e w' => e = .returned (.agg #[.int .i64 0, .int .i64 0, .string ⟨#[]⟩, .bool false]) ∧ Below W.heap.size W w') := fun W => null_ W
  clear h h1
  have F0 := Lib.hid (fr2_start w k n t b k' n' t' b' 23)
  go_enter Tryd.func13, Tryd.ntmps13
  go_wp2_with fail
  refine (HN.out _ _ (by first | rfl | simp)).mono ?_
  rintro e w1 ⟨rfl, hb1⟩
  have F1 := Lib.hid (F0.out.on hb1)
  clear F0 hb1
  obtain ⟨⟨p0, p1, p2, p3⟩, ⟨q0, q1, q2, q3⟩, ⟨r0, r1, r2, r3⟩, ⟨f0, f1, f2, f3⟩, hbw, hsz⟩ := F1.out
  go_wp2_with fail
  refine (HO.out _).mono ?_
  rintro e w2 ⟨rfl, hb2⟩
  have F2 := Lib.hid (F1.out.on hb2)
  clear F1 hb2
  clear p0 p1 p2 p3 q0 q1 q2 q3 r0 r1 r2 r3 f0 f1 f2 f3 hbw hsz
  obtain ⟨⟨p0, p1, p2, p3⟩, ⟨q0, q1, q2, q3⟩, ⟨r0, r1, r2, r3⟩, ⟨f0, f1, f2, f3⟩, hbw, hsz⟩ := F2.out
  go_wp2_with fail
  refine (HNU.out _).mono ?_
  rintro e w3 ⟨rfl, hb3⟩
  have F3 := Lib.hid (F2.out.on hb3)
  clear F2 hb3
  clear p0 p1 p2 p3 q0 q1 q2 q3 r0 r1 r2 r3 f0 f1 f2 f3 hbw hsz
  obtain ⟨⟨p0, p1, p2, p3⟩, ⟨q0, q1, q2, q3⟩, ⟨r0, r1, r2, r3⟩, ⟨f0, f1, f2, f3⟩, hbw, hsz⟩ := F3.out
  go_wp2_with fail
  refine bodyPost_ret (v := .tuple #[.agg #[.int .i64 0, .int .i64 0, .string ⟨#[]⟩, .bool false], .nilIface]) ?_ rfl ⟨rfl, four_set hbw (w.heap.size + 1 + 1) (by omega) _ _ _ _⟩
  simp [results, Tryd.results13, go_sem, r0, r1, r2, r3]

theorem join_long (k n : Int) (t : ByteArray) (b : Bool) (k' n' : Int) (t' : ByteArray) (b' : Bool) (w : World) (h : (isK 2 k && isK 2 k') = true) (h1 : one0 k k' = false) (hl : t.size ≤ 140737488351232) (hl' : t'.size ≤ 140737488351232) (hb : 4096 < t.size + t'.size) :
    Calls Tryd.prog 13 #[.agg #[.int .i64 k, .int .i64 n, .string t, .bool b], .agg #[.int .i64 k', .int .i64 n', .string t', .bool b']] w fun e w' => e = .returned (.tuple #[.agg #[.int .i64 0, .int .i64 0, .string ⟨#[]⟩, .bool false], .iface 37 (.int .i64 2)]) ∧ Below w.heap.size w w' := by
  have HN : Hid (∀ (W : World) (B : Nat), W.heap.size = B → Calls Tryd.prog 15 #[.int .i64 2, .slice (some ⟨B, 0, none⟩) 2 2] (W.alloc (.cells #[.int .i64 k, .int .i64 n, .string t, .bool b, .int .i64 k', .int .i64 n', .string t', .bool b'] 23)) fun e w' => e = .returned (.bool true) ∧ Below W.heap.size W w') := fun W B hB => by rw [← h]; exact are2n_ 2 k n t b k' n' t' b' W B hB
  have HO : Hid (∀ W, Calls Tryd.prog 16 #[.agg #[.int .i64 k, .int .i64 n, .string t, .bool b], .agg #[.int .i64 k', .int .i64 n', .string t', .bool b']] W fun e w' => e = .returned (.bool false) ∧ Below W.heap.size W w') := fun W => by rw [← h1]; exact oneNull_ k n t b k' n' t' b' W
  clear h h1
  have g : (4096 : Int) < (t.size : Int) + (t'.size : Int) := by omega
  have F0 := Lib.hid (fr2_start w k n t b k' n' t' b' 23)
  go_enter Tryd.func13, Tryd.ntmps13
  go_wp2_with fail
  refine (HN.out _ _ (by first | rfl | simp)).mono ?_
  rintro e w1 ⟨rfl, hb1⟩
  have F1 := Lib.hid (F0.out.on hb1)
  clear F0 hb1
  obtain ⟨⟨p0, p1, p2, p3⟩, ⟨q0, q1, q2, q3⟩, ⟨r0, r1, r2, r3⟩, ⟨f0, f1, f2, f3⟩, hbw, hsz⟩ := F1.out
  go_wp2_with fail
  refine (HO.out _).mono ?_
  rintro e w2 ⟨rfl, hb2⟩
  have F2 := Lib.hid (F1.out.on hb2)
  clear F1 hb2
  clear p0 p1 p2 p3 q0 q1 q2 q3 r0 r1 r2 r3 f0 f1 f2 f3 hbw hsz
  obtain ⟨⟨p0, p1, p2, p3⟩, ⟨q0, q1, q2, q3⟩, ⟨r0, r1, r2, r3⟩, ⟨f0, f1, f2, f3⟩, hbw, hsz⟩ := F2.out
  go_wp2_with fail
  refine bodyPost_ret (v := .tuple #[.agg #[.int .i64 0, .int .i64 0, .string ⟨#[]⟩, .bool false], .iface 37 (.int .i64 2)]) ?_ rfl ⟨rfl, four_set hbw (w.heap.size + 1 + 1) (by omega) _ _ _ _⟩
  simp [results, Tryd.results13, go_sem, r0, r1, r2, r3]

theorem join_ok (k n : Int) (t : ByteArray) (b : Bool) (k' n' : Int) (t' : ByteArray) (b' : Bool) (w : World) (h : (isK 2 k && isK 2 k') = true) (h1 : one0 k k' = false) (hb : t.size + t'.size ≤ 4096) :
    Calls Tryd.prog 13 #[.agg #[.int .i64 k, .int .i64 n, .string t, .bool b], .agg #[.int .i64 k', .int .i64 n', .string t', .bool b']] w fun e w' => e = .returned (.tuple #[.agg #[.int .i64 2, .int .i64 0, .string (t ++ t'), .bool false], .nilIface]) ∧ Below w.heap.size w w' := by
  have HN : Hid (∀ (W : World) (B : Nat), W.heap.size = B → Calls Tryd.prog 15 #[.int .i64 2, .slice (some ⟨B, 0, none⟩) 2 2] (W.alloc (.cells #[.int .i64 k, .int .i64 n, .string t, .bool b, .int .i64 k', .int .i64 n', .string t', .bool b'] 23)) fun e w' => e = .returned (.bool true) ∧ Below W.heap.size W w') := fun W B hB => by rw [← h]; exact are2n_ 2 k n t b k' n' t' b' W B hB
  have HO : Hid (∀ W, Calls Tryd.prog 16 #[.agg #[.int .i64 k, .int .i64 n, .string t, .bool b], .agg #[.int .i64 k', .int .i64 n', .string t', .bool b']] W fun e w' => e = .returned (.bool false) ∧ Below W.heap.size W w') := fun W => by rw [← h1]; exact oneNull_ k n t b k' n' t' b' W
  have HTx : Hid (∀ W, Calls Tryd.prog 22 #[.string (t ++ t')] W fun e w' => e = .returned (.agg #[.int .i64 2, .int .i64 0, .string (t ++ t'), .bool false]) ∧ Below W.heap.size W w') := fun W => text_ _ W
  clear h h1
  have g : ¬ (4096 : Int) < (t.size : Int) + (t'.size : Int) := by omega
  have F0 := Lib.hid (fr2_start w k n t b k' n' t' b' 23)
  go_enter Tryd.func13, Tryd.ntmps13
  go_wp2_with fail
  refine (HN.out _ _ (by first | rfl | simp)).mono ?_
  rintro e w1 ⟨rfl, hb1⟩
  have F1 := Lib.hid (F0.out.on hb1)
  clear F0 hb1
  obtain ⟨⟨p0, p1, p2, p3⟩, ⟨q0, q1, q2, q3⟩, ⟨r0, r1, r2, r3⟩, ⟨f0, f1, f2, f3⟩, hbw, hsz⟩ := F1.out
  go_wp2_with fail
  refine (HO.out _).mono ?_
  rintro e w2 ⟨rfl, hb2⟩
  have F2 := Lib.hid (F1.out.on hb2)
  clear F1 hb2
  clear p0 p1 p2 p3 q0 q1 q2 q3 r0 r1 r2 r3 f0 f1 f2 f3 hbw hsz
  obtain ⟨⟨p0, p1, p2, p3⟩, ⟨q0, q1, q2, q3⟩, ⟨r0, r1, r2, r3⟩, ⟨f0, f1, f2, f3⟩, hbw, hsz⟩ := F2.out
  go_wp2_with fail
  refine (HTx.out _).mono ?_
  rintro e w3 ⟨rfl, hb3⟩
  have F3 := Lib.hid (F2.out.on hb3)
  clear F2 hb3
  clear p0 p1 p2 p3 q0 q1 q2 q3 r0 r1 r2 r3 f0 f1 f2 f3 hbw hsz
  obtain ⟨⟨p0, p1, p2, p3⟩, ⟨q0, q1, q2, q3⟩, ⟨r0, r1, r2, r3⟩, ⟨f0, f1, f2, f3⟩, hbw, hsz⟩ := F3.out
  go_wp2_with fail
  refine bodyPost_ret (v := .tuple #[.agg #[.int .i64 2, .int .i64 0, .string (t ++ t'), .bool false], .nilIface]) ?_ rfl ⟨rfl, four_set hbw (w.heap.size + 1 + 1) (by omega) _ _ _ _⟩
  simp [results, Tryd.results13, go_sem, r0, r1, r2, r3]

def jnE (a b : Val) : Int := if (isK 2 a.k && isK 2 b.k) = false then 7 else if one0 a.k b.k = true then 0 else if 4096 < a.t.size + b.t.size then 2 else 0
def jnR (a b : Val) : Val := if (isK 2 a.k && isK 2 b.k) = false then vNull else if one0 a.k b.k = true then vNull else if 4096 < a.t.size + b.t.size then vNull else ⟨2, 0, a.t ++ b.t, false⟩
theorem join_ (k n : Int) (t : ByteArray) (b : Bool) (k' n' : Int) (t' : ByteArray) (b' : Bool) (w : World) (hl : t.size ≤ 140737488351232) (hl' : t'.size ≤ 140737488351232) :
    Calls Tryd.prog 13 #[.agg #[.int .i64 k, .int .i64 n, .string t, .bool b], .agg #[.int .i64 k', .int .i64 n', .string t', .bool b']] w fun e w' => e = .returned (.tuple #[agV (jnR ⟨k, n, t, b⟩ ⟨k', n', t', b'⟩), errV 37 (jnE ⟨k, n, t, b⟩ ⟨k', n', t', b'⟩)]) ∧ Below w.heap.size w w' := by
  cases h : (isK 2 k && isK 2 k')
  · refine (join_kind k n t b k' n' t' b' w h).mono fun e w' ⟨he, hb⟩ => ⟨he.trans ?_, hb⟩
    simp [jnR, jnE, h, agV, errV, vNull]
  cases h1 : one0 k k'
  · by_cases hb : 4096 < t.size + t'.size
    · refine (join_long k n t b k' n' t' b' w h h1 hl hl' hb).mono fun e w' ⟨he, hbb⟩ => ⟨he.trans ?_, hbb⟩
      simp [jnR, jnE, h, h1, hb, agV, errV, vNull]
    · refine (join_ok k n t b k' n' t' b' w h h1 (by omega)).mono fun e w' ⟨he, _⟩ => ⟨he.trans ?_, ?_⟩
      · simp [jnR, jnE, h, h1, hb, agV, errV]
      · assumption
  · refine (join_null k n t b k' n' t' b' w h h1).mono fun e w' ⟨he, hb⟩ => ⟨he.trans ?_, hb⟩
    simp [jnR, jnE, h, h1, agV, errV, vNull]
end Go.Proofs.YtfplncbechidnabDoor
