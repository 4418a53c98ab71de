/- The walks of value.Equal, Less, And, Or, Not. -/
import Derived.Test.YtfplncbechidnaaGreatDoorW2
namespace Go.Proofs.YtfplncbechidnaaGreatDoor
open Go.RowKit Go.Sort

/-- An error by its number; 0: none. -/
def errV (ty : TypeId) (e : Int) : Value := if e = 0 then .nilIface else .iface ty (.int .i64 e)
def eqE (k k' : Int) : Int := if likeB k k' = false then 7 else 0
def eqR (a b : Val) (f : Int → Bool) : Val := if likeB a.k b.k = false then vNull else if one0 a.k b.k = true then vNull else vBool (f (cmpV a b))
def decE (k k' : Int) : Int := if (isK 3 k && isK 3 k') = false then 7 else 0
def decR (a b : Val) (d : Bool) : Val := if (isK 3 a.k && isK 3 b.k) = false then vNull else if cmpV a (vBool d) = 0 ∨ cmpV b (vBool d) = 0 then vBool d else if one0 a.k b.k = true then vNull else vBool (!d)

theorem decide_no (d : Bool) (k n : Int) (t : ByteArray) (b : Bool) (k' n' : Int) (t' : ByteArray) (b' : Bool) (w : World) (h : (isK 3 k && isK 3 k') = false) :
    Calls Tryz.prog 36 #[.agg #[.int .i64 k, .int .i64 n, .string t, .bool b], .agg #[.int .i64 k', .int .i64 n', .string t', .bool b'], .bool d] w fun e w' => e = .returned (.tuple #[.agg #[.int .i64 0, .int .i64 0, .string ⟨#[]⟩, .bool false], .iface 47 (.int .i64 7)]) ∧ Below w.heap.size w w' := by
  have HN : Hid (∀ (W : World) (B : Nat), W.heap.size = B → Calls Tryz.prog 51 #[.int .i64 3, .slice (some ⟨B, 0, none⟩) 2 2] (W.alloc (.cells #[.int .i64 k, .int .i64 n, .string t, .bool b, .int .i64 k', .int .i64 n', .string t', .bool b'] 23)) fun e w' => e = .returned (.bool false) ∧ Below W.heap.size W w') := fun W B hB => by rw [← h]; exact are2n_ 3 k n t b k' n' t' b' W B hB
  have HBo : Hid (∀ W, Calls Tryz.prog 13 #[.bool d] W fun e w' => e = .returned (.agg #[.int .i64 3, .int .i64 0, .string ⟨#[]⟩, .bool d]) ∧ Below W.heap.size W w') := fun W => bool_ _ W
  clear h
  have F0 := Lib.hid (fr2_start w k n t b k' n' t' b' 23)
  go_enter Tryz.func36, Tryz.ntmps36
  go_wp2_with fail
  refine (HBo.out _).mono ?_
  rintro e w1 ⟨rfl, hb1⟩
  have F1 := Lib.hid (F0.out.on (below_step hb1 ((Below.refl _ _).alloc (Nat.le_refl _) (.cells #[.int .i64 3, .int .i64 0, .string ⟨#[]⟩, .bool d] 23))))
  have E1 := Lib.hid (in4_new w1 3 0 ⟨#[]⟩ d 23)
  clear F0 hb1
  obtain ⟨⟨p0, p1, p2, p3⟩, ⟨q0, q1, q2, q3⟩, ⟨r0, r1, r2, r3⟩, ⟨f0, f1, f2, f3⟩, hbw, hsz⟩ := F1.out
  obtain ⟨e0, e1, e2, e3⟩ := E1.out
  go_wp2_with fail
  refine (HN.out _ _ (by simp)).mono ?_
  rintro e w2 ⟨rfl, hb2⟩
  have F2 := Lib.hid (F1.out.on hb2)
  have E2 := Lib.hid (E1.out.on hb2)
  clear F1 E1 hb2
  clear p0 p1 p2 p3 q0 q1 q2 q3 r0 r1 r2 r3 f0 f1 f2 f3 hbw hsz e0 e1 e2 e3
  obtain ⟨⟨p0, p1, p2, p3⟩, ⟨q0, q1, q2, q3⟩, ⟨r0, r1, r2, r3⟩, ⟨f0, f1, f2, f3⟩, hbw, hsz⟩ := F2.out
  obtain ⟨e0, e1, e2, e3⟩ := E2.out
  go_wp2_with fail
  refine bodyPost_ret (v := .tuple #[.agg #[.int .i64 0, .int .i64 0, .string ⟨#[]⟩, .bool false], .iface 47 (.int .i64 7)]) ?_ rfl ⟨rfl, four_set hbw (w.heap.size + 1 + 1) (by omega) _ _ _ _⟩
  simp [results, Tryz.results36, go_sem, r0, r1, r2, r3]

set_option maxHeartbeats 800000 in
theorem decide_one (d : Bool) (k n : Int) (t : ByteArray) (b : Bool) (k' n' : Int) (t' : ByteArray) (b' : Bool) (w : World) (h : (isK 3 k && isK 3 k') = true) (hc : (cmpV ⟨k, n, t, b⟩ (vBool d) == 0) = true) :
    Calls Tryz.prog 36 #[.agg #[.int .i64 k, .int .i64 n, .string t, .bool b], .agg #[.int .i64 k', .int .i64 n', .string t', .bool b'], .bool d] w fun e w' => e = .returned (.tuple #[.agg #[.int .i64 3, .int .i64 0, .string ⟨#[]⟩, .bool d], .nilIface]) ∧ Below w.heap.size w w' := by
  have HN : Hid (∀ (W : World) (B : Nat), W.heap.size = B → Calls Tryz.prog 51 #[.int .i64 3, .slice (some ⟨B, 0, none⟩) 2 2] (W.alloc (.cells #[.int .i64 k, .int .i64 n, .string t, .bool b, .int .i64 k', .int .i64 n', .string t', .bool b'] 23)) fun e w' => e = .returned (.bool true) ∧ Below W.heap.size W w') := fun W B hB => by rw [← h]; exact are2n_ 3 k n t b k' n' t' b' W B hB
  have HBo : Hid (∀ W, Calls Tryz.prog 13 #[.bool d] W fun e w' => e = .returned (.agg #[.int .i64 3, .int .i64 0, .string ⟨#[]⟩, .bool d]) ∧ Below W.heap.size W w') := fun W => bool_ _ W
  have HCA : Hid (∀ W, Calls Tryz.prog 52 #[.agg #[.int .i64 k, .int .i64 n, .string t, .bool b], .agg #[.int .i64 3, .int .i64 0, .string ⟨#[]⟩, .bool d]] W fun e w' => e = .returned (.int .i64 (cmpV ⟨k, n, t, b⟩ (vBool d))) ∧ Below W.heap.size W w') := fun W => comp_ k n t b 3 0 ⟨#[]⟩ d W
  clear h
  generalize cmpV ⟨k, n, t, b⟩ (vBool d) = c at *
  have F0 := Lib.hid (fr2_start w k n t b k' n' t' b' 23)
  go_enter Tryz.func36, Tryz.ntmps36
  go_wp2_with fail
  refine (HBo.out _).mono ?_
  rintro e w1 ⟨rfl, hb1⟩
  have F1 := Lib.hid (F0.out.on (below_step hb1 ((Below.refl _ _).alloc (Nat.le_refl _) (.cells #[.int .i64 3, .int .i64 0, .string ⟨#[]⟩, .bool d] 23))))
  have E1 := Lib.hid (in4_new w1 3 0 ⟨#[]⟩ d 23)
  clear F0 hb1
  obtain ⟨⟨p0, p1, p2, p3⟩, ⟨q0, q1, q2, q3⟩, ⟨r0, r1, r2, r3⟩, ⟨f0, f1, f2, f3⟩, hbw, hsz⟩ := F1.out
  obtain ⟨e0, e1, e2, e3⟩ := E1.out
  go_wp2_with fail
  refine (HN.out _ _ (by simp)).mono ?_
  rintro e w2 ⟨rfl, hb2⟩
  have F2 := Lib.hid (F1.out.on hb2)
  have E2 := Lib.hid (E1.out.on hb2)
  clear F1 E1 hb2
  clear p0 p1 p2 p3 q0 q1 q2 q3 r0 r1 r2 r3 f0 f1 f2 f3 hbw hsz e0 e1 e2 e3
  obtain ⟨⟨p0, p1, p2, p3⟩, ⟨q0, q1, q2, q3⟩, ⟨r0, r1, r2, r3⟩, ⟨f0, f1, f2, f3⟩, hbw, hsz⟩ := F2.out
  obtain ⟨e0, e1, e2, e3⟩ := E2.out
  go_wp2_with fail
  refine (HCA.out _).mono ?_
  rintro e w3 ⟨rfl, hb3⟩
  have F3 := Lib.hid (F2.out.on hb3)
  have E3 := Lib.hid (E2.out.on hb3)
  clear F2 E2 hb3
  clear p0 p1 p2 p3 q0 q1 q2 q3 r0 r1 r2 r3 f0 f1 f2 f3 hbw hsz e0 e1 e2 e3
  obtain ⟨⟨p0, p1, p2, p3⟩, ⟨q0, q1, q2, q3⟩, ⟨r0, r1, r2, r3⟩, ⟨f0, f1, f2, f3⟩, hbw, hsz⟩ := F3.out
  obtain ⟨e0, e1, e2, e3⟩ := E3.out
  go_wp2_with fail
  refine bodyPost_ret (v := .tuple #[.agg #[.int .i64 3, .int .i64 0, .string ⟨#[]⟩, .bool d], .nilIface]) ?_ rfl ⟨rfl, four_set hbw (w.heap.size + 1 + 1) (by omega) _ _ _ _⟩
  simp [results, Tryz.results36, go_sem, r0, r1, r2, r3]

set_option maxHeartbeats 800000 in
theorem decide_two (d : Bool) (k n : Int) (t : ByteArray) (b : Bool) (k' n' : Int) (t' : ByteArray) (b' : Bool) (w : World) (h : (isK 3 k && isK 3 k') = true) (hc : (cmpV ⟨k, n, t, b⟩ (vBool d) == 0) = false) (hc' : (cmpV ⟨k', n', t', b'⟩ (vBool d) == 0) = true) :
    Calls Tryz.prog 36 #[.agg #[.int .i64 k, .int .i64 n, .string t, .bool b], .agg #[.int .i64 k', .int .i64 n', .string t', .bool b'], .bool d] w fun e w' => e = .returned (.tuple #[.agg #[.int .i64 3, .int .i64 0, .string ⟨#[]⟩, .bool d], .nilIface]) ∧ Below w.heap.size w w' := by
  have HN : Hid (∀ (W : World) (B : Nat), W.heap.size = B → Calls Tryz.prog 51 #[.int .i64 3, .slice (some ⟨B, 0, none⟩) 2 2] (W.alloc (.cells #[.int .i64 k, .int .i64 n, .string t, .bool b, .int .i64 k', .int .i64 n', .string t', .bool b'] 23)) fun e w' => e = .returned (.bool true) ∧ Below W.heap.size W w') := fun W B hB => by rw [← h]; exact are2n_ 3 k n t b k' n' t' b' W B hB
  have HBo : Hid (∀ W, Calls Tryz.prog 13 #[.bool d] W fun e w' => e = .returned (.agg #[.int .i64 3, .int .i64 0, .string ⟨#[]⟩, .bool d]) ∧ Below W.heap.size W w') := fun W => bool_ _ W
  have HCA : Hid (∀ W, Calls Tryz.prog 52 #[.agg #[.int .i64 k, .int .i64 n, .string t, .bool b], .agg #[.int .i64 3, .int .i64 0, .string ⟨#[]⟩, .bool d]] W fun e w' => e = .returned (.int .i64 (cmpV ⟨k, n, t, b⟩ (vBool d))) ∧ Below W.heap.size W w') := fun W => comp_ k n t b 3 0 ⟨#[]⟩ d W
  have HCB : Hid (∀ W, Calls Tryz.prog 52 #[.agg #[.int .i64 k', .int .i64 n', .string t', .bool b'], .agg #[.int .i64 3, .int .i64 0, .string ⟨#[]⟩, .bool d]] W fun e w' => e = .returned (.int .i64 (cmpV ⟨k', n', t', b'⟩ (vBool d))) ∧ Below W.heap.size W w') := fun W => comp_ k' n' t' b' 3 0 ⟨#[]⟩ d W
  clear h
  generalize cmpV ⟨k, n, t, b⟩ (vBool d) = c at *
  generalize cmpV ⟨k', n', t', b'⟩ (vBool d) = c' at *
  have F0 := Lib.hid (fr2_start w k n t b k' n' t' b' 23)
  go_enter Tryz.func36, Tryz.ntmps36
  go_wp2_with fail
  refine (HBo.out _).mono ?_
  rintro e w1 ⟨rfl, hb1⟩
  have F1 := Lib.hid (F0.out.on (below_step hb1 ((Below.refl _ _).alloc (Nat.le_refl _) (.cells #[.int .i64 3, .int .i64 0, .string ⟨#[]⟩, .bool d] 23))))
  have E1 := Lib.hid (in4_new w1 3 0 ⟨#[]⟩ d 23)
  clear F0 hb1
  obtain ⟨⟨p0, p1, p2, p3⟩, ⟨q0, q1, q2, q3⟩, ⟨r0, r1, r2, r3⟩, ⟨f0, f1, f2, f3⟩, hbw, hsz⟩ := F1.out
  obtain ⟨e0, e1, e2, e3⟩ := E1.out
  go_wp2_with fail
  refine (HN.out _ _ (by simp)).mono ?_
  rintro e w2 ⟨rfl, hb2⟩
  have F2 := Lib.hid (F1.out.on hb2)
  have E2 := Lib.hid (E1.out.on hb2)
  clear F1 E1 hb2
  clear p0 p1 p2 p3 q0 q1 q2 q3 r0 r1 r2 r3 f0 f1 f2 f3 hbw hsz e0 e1 e2 e3
  obtain ⟨⟨p0, p1, p2, p3⟩, ⟨q0, q1, q2, q3⟩, ⟨r0, r1, r2, r3⟩, ⟨f0, f1, f2, f3⟩, hbw, hsz⟩ := F2.out
  obtain ⟨e0, e1, e2, e3⟩ := E2.out
  go_wp2_with fail
  refine (HCA.out _).mono ?_
  rintro e w3 ⟨rfl, hb3⟩
  have F3 := Lib.hid (F2.out.on hb3)
  have E3 := Lib.hid (E2.out.on hb3)
  clear F2 E2 hb3
  clear p0 p1 p2 p3 q0 q1 q2 q3 r0 r1 r2 r3 f0 f1 f2 f3 hbw hsz e0 e1 e2 e3
  obtain ⟨⟨p0, p1, p2, p3⟩, ⟨q0, q1, q2, q3⟩, ⟨r0, r1, r2, r3⟩, ⟨f0, f1, f2, f3⟩, hbw, hsz⟩ := F3.out
  obtain ⟨e0, e1, e2, e3⟩ := E3.out
  go_wp2_with fail
  refine (HCB.out _).mono ?_
  rintro e w4 ⟨rfl, hb4⟩
  have F4 := Lib.hid (F3.out.on hb4)
  have E4 := Lib.hid (E3.out.on hb4)
  clear F3 E3 hb4
  clear p0 p1 p2 p3 q0 q1 q2 q3 r0 r1 r2 r3 f0 f1 f2 f3 hbw hsz e0 e1 e2 e3
  obtain ⟨⟨p0, p1, p2, p3⟩, ⟨q0, q1, q2, q3⟩, ⟨r0, r1, r2, r3⟩, ⟨f0, f1, f2, f3⟩, hbw, hsz⟩ := F4.out
  obtain ⟨e0, e1, e2, e3⟩ := E4.out
  go_wp2_with fail
  refine bodyPost_ret (v := .tuple #[.agg #[.int .i64 3, .int .i64 0, .string ⟨#[]⟩, .bool d], .nilIface]) ?_ rfl ⟨rfl, four_set hbw (w.heap.size + 1 + 1) (by omega) _ _ _ _⟩
  simp [results, Tryz.results36, go_sem, r0, r1, r2, r3]

set_option maxHeartbeats 800000 in
theorem decide_null (d : Bool) (k n : Int) (t : ByteArray) (b : Bool) (k' n' : Int) (t' : ByteArray) (b' : Bool) (w : World) (h : (isK 3 k && isK 3 k') = true) (hc : (cmpV ⟨k, n, t, b⟩ (vBool d) == 0) = false) (hc' : (cmpV ⟨k', n', t', b'⟩ (vBool d) == 0) = false) (h1 : one0 k k' = true) :
    Calls Tryz.prog 36 #[.agg #[.int .i64 k, .int .i64 n, .string t, .bool b], .agg #[.int .i64 k', .int .i64 n', .string t', .bool b'], .bool d] w fun e w' => e = .returned (.tuple #[.agg #[.int .i64 0, .int .i64 0, .string ⟨#[]⟩, .bool false], .nilIface]) ∧ Below w.heap.size w w' := by
  have HN : Hid (∀ (W : World) (B : Nat), W.heap.size = B → Calls Tryz.prog 51 #[.int .i64 3, .slice (some ⟨B, 0, none⟩) 2 2] (W.alloc (.cells #[.int .i64 k, .int .i64 n, .string t, .bool b, .int .i64 k', .int .i64 n', .string t', .bool b'] 23)) fun e w' => e = .returned (.bool true) ∧ Below W.heap.size W w') := fun W B hB => by rw [← h]; exact are2n_ 3 k n t b k' n' t' b' W B hB
  have HBo : Hid (∀ W, Calls Tryz.prog 13 #[.bool d] W fun e w' => e = .returned (.agg #[.int .i64 3, .int .i64 0, .string ⟨#[]⟩, .bool d]) ∧ Below W.heap.size W w') := fun W => bool_ _ W
  have HCA : Hid (∀ W, Calls Tryz.prog 52 #[.agg #[.int .i64 k, .int .i64 n, .string t, .bool b], .agg #[.int .i64 3, .int .i64 0, .string ⟨#[]⟩, .bool d]] W fun e w' => e = .returned (.int .i64 (cmpV ⟨k, n, t, b⟩ (vBool d))) ∧ Below W.heap.size W w') := fun W => comp_ k n t b 3 0 ⟨#[]⟩ d W
  have HCB : Hid (∀ W, Calls Tryz.prog 52 #[.agg #[.int .i64 k', .int .i64 n', .string t', .bool b'], .agg #[.int .i64 3, .int .i64 0, .string ⟨#[]⟩, .bool d]] W fun e w' => e = .returned (.int .i64 (cmpV ⟨k', n', t', b'⟩ (vBool d))) ∧ Below W.heap.size W w') := fun W => comp_ k' n' t' b' 3 0 ⟨#[]⟩ d W
  have HO : Hid (∀ W, Calls Tryz.prog 53 #[.agg #[.int .i64 k, .int .i64 n, .string t, .bool b], .agg #[.int .i64 k', .int .i64 n', .string t', .bool b']] W fun e w' => e = .returned (.bool true) ∧ Below W.heap.size W w') := fun W => by rw [← h1]; exact oneNull_ k n t b k' n' t' b' W
  have HNU : Hid (∀ W, Calls Tryz.prog 8 #[] W fun e w' => e = .returned (.agg #[.int .i64 0, .int .i64 0, .string ⟨#[]⟩, .bool false]) ∧ Below W.heap.size W w') := fun W => null_ W
  clear h h1
  generalize cmpV ⟨k, n, t, b⟩ (vBool d) = c at *
  generalize cmpV ⟨k', n', t', b'⟩ (vBool d) = c' at *
  have F0 := Lib.hid (fr2_start w k n t b k' n' t' b' 23)
  go_enter Tryz.func36, Tryz.ntmps36
  go_wp2_with fail
  refine (HBo.out _).mono ?_
  rintro e w1 ⟨rfl, hb1⟩
  have F1 := Lib.hid (F0.out.on (below_step hb1 ((Below.refl _ _).alloc (Nat.le_refl _) (.cells #[.int .i64 3, .int .i64 0, .string ⟨#[]⟩, .bool d] 23))))
  have E1 := Lib.hid (in4_new w1 3 0 ⟨#[]⟩ d 23)
  clear F0 hb1
  obtain ⟨⟨p0, p1, p2, p3⟩, ⟨q0, q1, q2, q3⟩, ⟨r0, r1, r2, r3⟩, ⟨f0, f1, f2, f3⟩, hbw, hsz⟩ := F1.out
  obtain ⟨e0, e1, e2, e3⟩ := E1.out
  go_wp2_with fail
  refine (HN.out _ _ (by simp)).mono ?_
  rintro e w2 ⟨rfl, hb2⟩
  have F2 := Lib.hid (F1.out.on hb2)
  have E2 := Lib.hid (E1.out.on hb2)
  clear F1 E1 hb2
  clear p0 p1 p2 p3 q0 q1 q2 q3 r0 r1 r2 r3 f0 f1 f2 f3 hbw hsz e0 e1 e2 e3
  obtain ⟨⟨p0, p1, p2, p3⟩, ⟨q0, q1, q2, q3⟩, ⟨r0, r1, r2, r3⟩, ⟨f0, f1, f2, f3⟩, hbw, hsz⟩ := F2.out
  obtain ⟨e0, e1, e2, e3⟩ := E2.out
  go_wp2_with fail
  refine (HCA.out _).mono ?_
  rintro e w3 ⟨rfl, hb3⟩
  have F3 := Lib.hid (F2.out.on hb3)
  have E3 := Lib.hid (E2.out.on hb3)
  clear F2 E2 hb3
  clear p0 p1 p2 p3 q0 q1 q2 q3 r0 r1 r2 r3 f0 f1 f2 f3 hbw hsz e0 e1 e2 e3
  obtain ⟨⟨p0, p1, p2, p3⟩, ⟨q0, q1, q2, q3⟩, ⟨r0, r1, r2, r3⟩, ⟨f0, f1, f2, f3⟩, hbw, hsz⟩ := F3.out
  obtain ⟨e0, e1, e2, e3⟩ := E3.out
  go_wp2_with fail
  refine (HCB.out _).mono ?_
  rintro e w4 ⟨rfl, hb4⟩
  have F4 := Lib.hid (F3.out.on hb4)
  have E4 := Lib.hid (E3.out.on hb4)
  clear F3 E3 hb4
  clear p0 p1 p2 p3 q0 q1 q2 q3 r0 r1 r2 r3 f0 f1 f2 f3 hbw hsz e0 e1 e2 e3
  obtain ⟨⟨p0, p1, p2, p3⟩, ⟨q0, q1, q2, q3⟩, ⟨r0, r1, r2, r3⟩, ⟨f0, f1, f2, f3⟩, hbw, hsz⟩ := F4.out
  obtain ⟨e0, e1, e2, e3⟩ := E4.out
  go_wp2_with fail
  refine (HO.out _).mono ?_
  rintro e w5 ⟨rfl, hb5⟩
  have F5 := Lib.hid (F4.out.on hb5)
  have E5 := Lib.hid (E4.out.on hb5)
  clear F4 E4 hb5
  clear p0 p1 p2 p3 q0 q1 q2 q3 r0 r1 r2 r3 f0 f1 f2 f3 hbw hsz e0 e1 e2 e3
  obtain ⟨⟨p0, p1, p2, p3⟩, ⟨q0, q1, q2, q3⟩, ⟨r0, r1, r2, r3⟩, ⟨f0, f1, f2, f3⟩, hbw, hsz⟩ := F5.out
  obtain ⟨e0, e1, e2, e3⟩ := E5.out
  go_wp2_with fail
  refine (HNU.out _).mono ?_
  rintro e w6 ⟨rfl, hb6⟩
  have F6 := Lib.hid (F5.out.on hb6)
  have E6 := Lib.hid (E5.out.on hb6)
  clear F5 E5 hb6
  clear p0 p1 p2 p3 q0 q1 q2 q3 r0 r1 r2 r3 f0 f1 f2 f3 hbw hsz e0 e1 e2 e3
  obtain ⟨⟨p0, p1, p2, p3⟩, ⟨q0, q1, q2, q3⟩, ⟨r0, r1, r2, r3⟩, ⟨f0, f1, f2, f3⟩, hbw, hsz⟩ := F6.out
  obtain ⟨e0, e1, e2, e3⟩ := E6.out
  go_wp2_with fail
  refine bodyPost_ret (v := .tuple #[.agg #[.int .i64 0, .int .i64 0, .string ⟨#[]⟩, .bool false], .nilIface]) ?_ rfl ⟨rfl, four_set hbw (w.heap.size + 1 + 1) (by omega) _ _ _ _⟩
  simp [results, Tryz.results36, go_sem, r0, r1, r2, r3]

set_option maxHeartbeats 800000 in
theorem decide_else (d : Bool) (k n : Int) (t : ByteArray) (b : Bool) (k' n' : Int) (t' : ByteArray) (b' : Bool) (w : World) (h : (isK 3 k && isK 3 k') = true) (hc : (cmpV ⟨k, n, t, b⟩ (vBool d) == 0) = false) (hc' : (cmpV ⟨k', n', t', b'⟩ (vBool d) == 0) = false) (h1 : one0 k k' = false) :
    Calls Tryz.prog 36 #[.agg #[.int .i64 k, .int .i64 n, .string t, .bool b], .agg #[.int .i64 k', .int .i64 n', .string t', .bool b'], .bool d] w fun e w' => e = .returned (.tuple #[.agg #[.int .i64 3, .int .i64 0, .string ⟨#[]⟩, .bool (!d)], .nilIface]) ∧ Below w.heap.size w w' := by
  have HN : Hid (∀ (W : World) (B : Nat), W.heap.size = B → Calls Tryz.prog 51 #[.int .i64 3, .slice (some ⟨B, 0, none⟩) 2 2] (W.alloc (.cells #[.int .i64 k, .int .i64 n, .string t, .bool b, .int .i64 k', .int .i64 n', .string t', .bool b'] 23)) fun e w' => e = .returned (.bool true) ∧ Below W.heap.size W w') := fun W B hB => by rw [← h]; exact are2n_ 3 k n t b k' n' t' b' W B hB
  have HBo : Hid (∀ W, Calls Tryz.prog 13 #[.bool d] W fun e w' => e = .returned (.agg #[.int .i64 3, .int .i64 0, .string ⟨#[]⟩, .bool d]) ∧ Below W.heap.size W w') := fun W => bool_ _ W
  have HCA : Hid (∀ W, Calls Tryz.prog 52 #[.agg #[.int .i64 k, .int .i64 n, .string t, .bool b], .agg #[.int .i64 3, .int .i64 0, .string ⟨#[]⟩, .bool d]] W fun e w' => e = .returned (.int .i64 (cmpV ⟨k, n, t, b⟩ (vBool d))) ∧ Below W.heap.size W w') := fun W => comp_ k n t b 3 0 ⟨#[]⟩ d W
  have HCB : Hid (∀ W, Calls Tryz.prog 52 #[.agg #[.int .i64 k', .int .i64 n', .string t', .bool b'], .agg #[.int .i64 3, .int .i64 0, .string ⟨#[]⟩, .bool d]] W fun e w' => e = .returned (.int .i64 (cmpV ⟨k', n', t', b'⟩ (vBool d))) ∧ Below W.heap.size W w') := fun W => comp_ k' n' t' b' 3 0 ⟨#[]⟩ d W
  have HO : Hid (∀ W, Calls Tryz.prog 53 #[.agg #[.int .i64 k, .int .i64 n, .string t, .bool b], .agg #[.int .i64 k', .int .i64 n', .string t', .bool b']] W fun e w' => e = .returned (.bool false) ∧ Below W.heap.size W w') := fun W => by rw [← h1]; exact oneNull_ k n t b k' n' t' b' W
  have HBn : Hid (∀ W, Calls Tryz.prog 13 #[.bool (!d)] W fun e w' => e = .returned (.agg #[.int .i64 3, .int .i64 0, .string ⟨#[]⟩, .bool (!d)]) ∧ Below W.heap.size W w') := fun W => bool_ _ W
  clear h h1
  generalize cmpV ⟨k, n, t, b⟩ (vBool d) = c at *
  generalize cmpV ⟨k', n', t', b'⟩ (vBool d) = c' at *
  have F0 := Lib.hid (fr2_start w k n t b k' n' t' b' 23)
  go_enter Tryz.func36, Tryz.ntmps36
  go_wp2_with fail
  refine (HBo.out _).mono ?_
  rintro e w1 ⟨rfl, hb1⟩
  have F1 := Lib.hid (F0.out.on (below_step hb1 ((Below.refl _ _).alloc (Nat.le_refl _) (.cells #[.int .i64 3, .int .i64 0, .string ⟨#[]⟩, .bool d] 23))))
  have E1 := Lib.hid (in4_new w1 3 0 ⟨#[]⟩ d 23)
  clear F0 hb1
  obtain ⟨⟨p0, p1, p2, p3⟩, ⟨q0, q1, q2, q3⟩, ⟨r0, r1, r2, r3⟩, ⟨f0, f1, f2, f3⟩, hbw, hsz⟩ := F1.out
  obtain ⟨e0, e1, e2, e3⟩ := E1.out
  go_wp2_with fail
  refine (HN.out _ _ (by simp)).mono ?_
  rintro e w2 ⟨rfl, hb2⟩
  have F2 := Lib.hid (F1.out.on hb2)
  have E2 := Lib.hid (E1.out.on hb2)
  clear F1 E1 hb2
  clear p0 p1 p2 p3 q0 q1 q2 q3 r0 r1 r2 r3 f0 f1 f2 f3 hbw hsz e0 e1 e2 e3
  obtain ⟨⟨p0, p1, p2, p3⟩, ⟨q0, q1, q2, q3⟩, ⟨r0, r1, r2, r3⟩, ⟨f0, f1, f2, f3⟩, hbw, hsz⟩ := F2.out
  obtain ⟨e0, e1, e2, e3⟩ := E2.out
  go_wp2_with fail
  refine (HCA.out _).mono ?_
  rintro e w3 ⟨rfl, hb3⟩
  have F3 := Lib.hid (F2.out.on hb3)
  have E3 := Lib.hid (E2.out.on hb3)
  clear F2 E2 hb3
  clear p0 p1 p2 p3 q0 q1 q2 q3 r0 r1 r2 r3 f0 f1 f2 f3 hbw hsz e0 e1 e2 e3
  obtain ⟨⟨p0, p1, p2, p3⟩, ⟨q0, q1, q2, q3⟩, ⟨r0, r1, r2, r3⟩, ⟨f0, f1, f2, f3⟩, hbw, hsz⟩ := F3.out
  obtain ⟨e0, e1, e2, e3⟩ := E3.out
  go_wp2_with fail
  refine (HCB.out _).mono ?_
  rintro e w4 ⟨rfl, hb4⟩
  have F4 := Lib.hid (F3.out.on hb4)
  have E4 := Lib.hid (E3.out.on hb4)
  clear F3 E3 hb4
  clear p0 p1 p2 p3 q0 q1 q2 q3 r0 r1 r2 r3 f0 f1 f2 f3 hbw hsz e0 e1 e2 e3
  obtain ⟨⟨p0, p1, p2, p3⟩, ⟨q0, q1, q2, q3⟩, ⟨r0, r1, r2, r3⟩, ⟨f0, f1, f2, f3⟩, hbw, hsz⟩ := F4.out
  obtain ⟨e0, e1, e2, e3⟩ := E4.out
  go_wp2_with fail
  refine (HO.out _).mono ?_
  rintro e w5 ⟨rfl, hb5⟩
  have F5 := Lib.hid (F4.out.on hb5)
  have E5 := Lib.hid (E4.out.on hb5)
  clear F4 E4 hb5
  clear p0 p1 p2 p3 q0 q1 q2 q3 r0 r1 r2 r3 f0 f1 f2 f3 hbw hsz e0 e1 e2 e3
  obtain ⟨⟨p0, p1, p2, p3⟩, ⟨q0, q1, q2, q3⟩, ⟨r0, r1, r2, r3⟩, ⟨f0, f1, f2, f3⟩, hbw, hsz⟩ := F5.out
  obtain ⟨e0, e1, e2, e3⟩ := E5.out
  go_wp2_with fail
  refine (HBn.out _).mono ?_
  rintro e w6 ⟨rfl, hb6⟩
  have F6 := Lib.hid (F5.out.on hb6)
  have E6 := Lib.hid (E5.out.on hb6)
  clear F5 E5 hb6
  clear p0 p1 p2 p3 q0 q1 q2 q3 r0 r1 r2 r3 f0 f1 f2 f3 hbw hsz e0 e1 e2 e3
  obtain ⟨⟨p0, p1, p2, p3⟩, ⟨q0, q1, q2, q3⟩, ⟨r0, r1, r2, r3⟩, ⟨f0, f1, f2, f3⟩, hbw, hsz⟩ := F6.out
  obtain ⟨e0, e1, e2, e3⟩ := E6.out
  go_wp2_with fail
  refine bodyPost_ret (v := .tuple #[.agg #[.int .i64 3, .int .i64 0, .string ⟨#[]⟩, .bool (!d)], .nilIface]) ?_ rfl ⟨rfl, four_set hbw (w.heap.size + 1 + 1) (by omega) _ _ _ _⟩
  simp [results, Tryz.results36, go_sem, r0, r1, r2, r3]

theorem decide_ (d : Bool) (k n : Int) (t : ByteArray) (b : Bool) (k' n' : Int) (t' : ByteArray) (b' : Bool) (w : World) :
    Calls Tryz.prog 36 #[.agg #[.int .i64 k, .int .i64 n, .string t, .bool b], .agg #[.int .i64 k', .int .i64 n', .string t', .bool b'], .bool d] w fun e w' => e = .returned (.tuple #[agV (decR ⟨k, n, t, b⟩ ⟨k', n', t', b'⟩ d), errV 47 (decE k k')]) ∧ Below w.heap.size w w' := by
  cases h : (isK 3 k && isK 3 k')
  · have e1 : decR ⟨k, n, t, b⟩ ⟨k', n', t', b'⟩ d = vNull := by simp [decR, h]
    refine (decide_no d k n t b k' n' t' b' w h).mono fun e w' ⟨he, hb⟩ => ⟨he.trans ?_, hb⟩
    rw [e1]; simp [decE, h, agV, errV, vNull]
  cases hc : (cmpV ⟨k, n, t, b⟩ (vBool d) == 0)
  · cases hc' : (cmpV ⟨k', n', t', b'⟩ (vBool d) == 0)
    · have n1 : ¬ (cmpV ⟨k, n, t, b⟩ (vBool d) = 0 ∨ cmpV ⟨k', n', t', b'⟩ (vBool d) = 0) := by rintro (e | e) <;> simp_all
      cases h1 : one0 k k'
      · have e1 : decR ⟨k, n, t, b⟩ ⟨k', n', t', b'⟩ d = vBool (!d) := by simp [decR, h, if_neg n1, h1]
        refine (decide_else d k n t b k' n' t' b' w h hc hc' h1).mono fun e w' ⟨he, hb⟩ => ⟨he.trans ?_, hb⟩
        rw [e1]; simp [decE, h, agV, errV, vBool]
      · have e1 : decR ⟨k, n, t, b⟩ ⟨k', n', t', b'⟩ d = vNull := by simp [decR, h, if_neg n1, h1]
        refine (decide_null d k n t b k' n' t' b' w h hc hc' h1).mono fun e w' ⟨he, hb⟩ => ⟨he.trans ?_, hb⟩
        rw [e1]; simp [decE, h, agV, errV, vNull]
    · have n1 : cmpV ⟨k, n, t, b⟩ (vBool d) = 0 ∨ cmpV ⟨k', n', t', b'⟩ (vBool d) = 0 := .inr (by simpa using hc')
      have e1 : decR ⟨k, n, t, b⟩ ⟨k', n', t', b'⟩ d = vBool d := by simp [decR, h, if_pos n1]
      refine (decide_two d k n t b k' n' t' b' w h hc hc').mono fun e w' ⟨he, hb⟩ => ⟨he.trans ?_, hb⟩
      rw [e1]; simp [decE, h, agV, errV, vBool]
  · have n1 : cmpV ⟨k, n, t, b⟩ (vBool d) = 0 ∨ cmpV ⟨k', n', t', b'⟩ (vBool d) = 0 := .inl (by simpa using hc)
    have e1 : decR ⟨k, n, t, b⟩ ⟨k', n', t', b'⟩ d = vBool d := by simp [decR, h, if_pos n1]
    refine (decide_one d k n t b k' n' t' b' w h hc).mono fun e w' ⟨he, hb⟩ => ⟨he.trans ?_, hb⟩
    rw [e1]; simp [decE, h, agV, errV, vBool]
theorem and_ (k n : Int) (t : ByteArray) (b : Bool) (k' n' : Int) (t' : ByteArray) (b' : Bool) (w : World) :
    Calls Tryz.prog 26 #[.agg #[.int .i64 k, .int .i64 n, .string t, .bool b], .agg #[.int .i64 k', .int .i64 n', .string t', .bool b']] w fun e w' => e = .returned (.tuple #[agV (decR ⟨k, n, t, b⟩ ⟨k', n', t', b'⟩ false), errV 47 (decE k k')]) ∧ Below w.heap.size w w' := by
  have HD : Hid (∀ W, Calls Tryz.prog 36 #[.agg #[.int .i64 k, .int .i64 n, .string t, .bool b], .agg #[.int .i64 k', .int .i64 n', .string t', .bool b'], .bool false] W fun e w' => e = .returned (.tuple #[agV (decR ⟨k, n, t, b⟩ ⟨k', n', t', b'⟩ false), errV 47 (decE k k')]) ∧ Below W.heap.size W w') := fun W => decide_ false k n t b k' n' t' b' W
  generalize decR ⟨k, n, t, b⟩ ⟨k', n', t', b'⟩ false = R at *
  generalize errV 47 (decE k k') = E at *
  obtain ⟨rk, rn, rt, rb⟩ := R
  simp only [agV] at *
  have F0 := Lib.hid (fr2_start w k n t b k' n' t' b' 23)
  go_enter Tryz.func26, Tryz.ntmps26
  go_wp2_with fail
  refine (HD.out _).mono ?_
  rintro e w1 ⟨rfl, hb1⟩
  have F1 := Lib.hid (F0.out.on hb1)
  clear F0 hb1
  obtain ⟨⟨p0, p1, p2, p3⟩, ⟨q0, q1, q2, q3⟩, ⟨r0, r1, r2, r3⟩, ⟨f0, f1, f2, f3⟩, hbw, hsz⟩ := F1.out
  go_wp2_with fail
  refine bodyPost_ret (v := .tuple #[.agg #[.int .i64 rk, .int .i64 rn, .string rt, .bool rb], E]) ?_ rfl ⟨rfl, four_set hbw (w.heap.size + 1 + 1) (by omega) _ _ _ _⟩
  simp [results, Tryz.results26, go_sem, r0, r1, r2, r3]
def notE (k : Int) : Int := if isK 3 k = false then 7 else 0
def notR (a : Val) : Val := if isK 3 a.k = false then vNull else if a.k = 0 then vNull else vBool (!a.b)
end Go.Proofs.YtfplncbechidnaaGreatDoor
