/- The walk of the law OrderKeeps. -/
import Derived.Test.YtonbecjankghaaaOSure
import Derived.Test.YtonbecjankghaaaODec
import Derived.Test.YtonbecjankghaaaOVals
import Derived.Test.YtonbecjankghaaaOCmp
namespace Go.Proofs.Ytonbecjankghaaa
open Go.RowKit Go.Sort

set_option maxRecDepth 100000 in
set_option maxHeartbeats 2000000 in
theorem keeps_bad (a a' : Option Addr) (c c' : Nat) (at_ : Int) (xs ys : List Val) (w : World) (h : ValsIn w a xs) (h' : ValsIn w a' ys) (hw : ∀ x ∈ xs, inI x.n) (hw' : ∀ x ∈ ys, inI x.n) (hlen : xs.length * 40 ≤ 140737488355328) (hlen' : ys.length * 40 ≤ 140737488355328) (hnil : a = none → c = 0) (hnil' : a' = none → c' = 0) (E : Int) (hE : errL xs = E) (h0 : E ≠ 0) (Y : Value) (hY : errV 43 (errL ys) = Y) :
    Calls Try.prog 4 #[.slice a xs.length c, .slice a' ys.length c', .int .i64 at_] w fun e w' => e = .returned (.bool true) ∧ Below w.heap.size w w' := by
  obtain ⟨SX, hSX⟩ : ∃ S : ByteArray, ⟨(txtL xs).toArray⟩ = S := ⟨_, rfl⟩
  obtain ⟨SY, hSY⟩ : ∃ S : ByteArray, ⟨(txtL ys).toArray⟩ = S := ⟨_, rfl⟩
  have HI := Lib.hid h
  have HI' := Lib.hid h'
  have HT := Lib.hid (twin_ a c xs w h hlen hnil)
  have HT' : Hid (∀ W, ValsIn W a' ys → Calls Try.prog 7 #[.slice a' ys.length c'] W fun e w' => ∃ a1 c1, e = .returned (.slice a1 ys.length c1) ∧ ValsIn w' a1 ys ∧ (a1 = none → c1 = 0) ∧ Below W.heap.size W w') := fun W hW => twin_ a' c' ys W hW hlen' hnil'
  have HE : Hid (∀ W a1 c1, ValsIn W a1 xs → Calls Try.prog 10 #[.slice a1 xs.length c1] W fun e w' => e = .returned (.tuple #[.string SX, .iface 43 (.int .i64 E)]) ∧ Below W.heap.size W w') := fun W a1 c1 h1 => by
    have := encode_ a1 c1 xs W h1 hw (by omega)
    rw [hE, errV, if_neg h0, hSX] at this
    exact this
  have HE' : Hid (∀ W a1 c1, ValsIn W a1 ys → Calls Try.prog 10 #[.slice a1 ys.length c1] W fun e w' => e = .returned (.tuple #[.string SY, Y]) ∧ Below W.heap.size W w') := fun W a1 c1 h1 => by
    have := encode_ a1 c1 ys W h1 hw' (by omega)
    rw [hY, hSY] at this
    exact this
  have HS : Hid (∀ W, Calls Try.prog 9 #[] W fun e w' => e = .returned (.bool true) ∧ Below W.heap.size W w') := fun W => sure_ W
  clear h h' hw hw' hlen hlen' hnil hnil' hE h0 hY hSX hSY
  generalize xs.length = L at *
  generalize ys.length = M at *
  go_enter Try.func4, Try.ntmps4
  go_wp2_with fail
  refine HT.out.mono ?_
  rintro e w1 ⟨a1, c1, rfl, i1, _, b1⟩
  have HI1 := Lib.hid i1
  have HB1 := Lib.hid b1
  clear i1 b1 HT
  go_wp2_with fail
  refine (HE.out _ _ _ HI1.out).mono ?_
  rintro e w2 ⟨rfl, b2⟩
  have HB2 := Lib.hid (below_step HB1.out b2)
  clear b2 HB1 HI1 HE
  go_wp2_with fail
  refine (HT'.out _ (HI'.out.on HB2.out)).mono ?_
  rintro e w3 ⟨a3, c3, rfl, i3, _, b3⟩
  have HI3 := Lib.hid i3
  have HB3 := Lib.hid (below_step HB2.out b3)
  clear i3 b3 HT' HB2
  go_wp2_with fail
  refine (HE'.out _ _ _ HI3.out).mono ?_
  rintro e w4 ⟨rfl, b4⟩
  have HB4 := Lib.hid (below_step HB3.out b4)
  clear b4 HB3 HI3 HE'
  go_wp2_with fail
  refine (HS.out _).mono ?_
  rintro e w5 ⟨rfl, b5⟩
  have HB5 := Lib.hid (below_step HB4.out b5)
  clear b5 HS HB4
  go_wp2_with fail
  go_ret
  exact ⟨rfl, HB5.out⟩
set_option maxRecDepth 100000 in
set_option maxHeartbeats 2000000 in
theorem keeps_bad2 (a a' : Option Addr) (c c' : Nat) (at_ : Int) (xs ys : List Val) (w : World) (h : ValsIn w a xs) (h' : ValsIn w a' ys) (hw : ∀ x ∈ xs, inI x.n) (hw' : ∀ x ∈ ys, inI x.n) (hlen : xs.length * 40 ≤ 140737488355328) (hlen' : ys.length * 40 ≤ 140737488355328) (hnil : a = none → c = 0) (hnil' : a' = none → c' = 0) (hE0 : errL xs = 0) (E : Int) (hE : errL ys = E) (h0 : E ≠ 0) :
    Calls Try.prog 4 #[.slice a xs.length c, .slice a' ys.length c', .int .i64 at_] w fun e w' => e = .returned (.bool true) ∧ Below w.heap.size w w' := by
  obtain ⟨SX, hSX⟩ : ∃ S : ByteArray, ⟨(txtL xs).toArray⟩ = S := ⟨_, rfl⟩
  obtain ⟨SY, hSY⟩ : ∃ S : ByteArray, ⟨(txtL ys).toArray⟩ = S := ⟨_, rfl⟩
  have HI := Lib.hid h
  have HI' := Lib.hid h'
  have HT := Lib.hid (twin_ a c xs w h hlen hnil)
  have HT' : Hid (∀ W, ValsIn W a' ys → Calls Try.prog 7 #[.slice a' ys.length c'] W fun e w' => ∃ a1 c1, e = .returned (.slice a1 ys.length c1) ∧ ValsIn w' a1 ys ∧ (a1 = none → c1 = 0) ∧ Below W.heap.size W w') := fun W hW => twin_ a' c' ys W hW hlen' hnil'
  have HE : Hid (∀ W a1 c1, ValsIn W a1 xs → Calls Try.prog 10 #[.slice a1 xs.length c1] W fun e w' => e = .returned (.tuple #[.string SX, .nilIface]) ∧ Below W.heap.size W w') := fun W a1 c1 h1 => by
    have := encode_ a1 c1 xs W h1 hw (by omega)
    rw [hE0, errV, if_pos rfl, hSX] at this
    exact this
  have HE' : Hid (∀ W a1 c1, ValsIn W a1 ys → Calls Try.prog 10 #[.slice a1 ys.length c1] W fun e w' => e = .returned (.tuple #[.string SY, .iface 43 (.int .i64 E)]) ∧ Below W.heap.size W w') := fun W a1 c1 h1 => by
    have := encode_ a1 c1 ys W h1 hw' (by omega)
    rw [hE, errV, if_neg h0, hSY] at this
    exact this
  have HS : Hid (∀ W, Calls Try.prog 9 #[] W fun e w' => e = .returned (.bool true) ∧ Below W.heap.size W w') := fun W => sure_ W
  clear h h' hw hw' hlen hlen' hnil hnil' hE h0 hE0 hSX hSY
  generalize xs.length = L at *
  generalize ys.length = M at *
  go_enter Try.func4, Try.ntmps4
  go_wp2_with fail
  refine HT.out.mono ?_
  rintro e w1 ⟨a1, c1, rfl, i1, _, b1⟩
  have HI1 := Lib.hid i1
  have HB1 := Lib.hid b1
  clear i1 b1 HT
  go_wp2_with fail
  refine (HE.out _ _ _ HI1.out).mono ?_
  rintro e w2 ⟨rfl, b2⟩
  have HB2 := Lib.hid (below_step HB1.out b2)
  clear b2 HB1 HI1 HE
  go_wp2_with fail
  refine (HT'.out _ (HI'.out.on HB2.out)).mono ?_
  rintro e w3 ⟨a3, c3, rfl, i3, _, b3⟩
  have HI3 := Lib.hid i3
  have HB3 := Lib.hid (below_step HB2.out b3)
  clear i3 b3 HT' HB2
  go_wp2_with fail
  refine (HE'.out _ _ _ HI3.out).mono ?_
  rintro e w4 ⟨rfl, b4⟩
  have HB4 := Lib.hid (below_step HB3.out b4)
  clear b4 HB3 HI3 HE'
  go_wp2_with fail
  refine (HS.out _).mono ?_
  rintro e w5 ⟨rfl, b5⟩
  have HB5 := Lib.hid (below_step HB4.out b5)
  clear b5 HS HB4
  go_wp2_with fail
  go_ret
  exact ⟨rfl, HB5.out⟩
theorem want_end {xs ys : List Val} {i : Nat} (hx : xs.length ≤ i ∨ ys.length ≤ i) (hi : i ≤ xs.length) (hi' : i ≤ ys.length) : cmpL (xs.drop i) (ys.drop i) = if xs.length = ys.length then 0 else if xs.length < ys.length then -1 else 1 := by
  rcases Nat.lt_trichotomy xs.length ys.length with h | h | h
  · rw [if_neg (by omega), if_pos h]; exact cmpL_short (by omega) (by omega)
  · rw [if_pos h]; exact cmpL_both (by omega) (by omega)
  · rw [if_neg (by omega), if_neg (by omega)]; exact cmpL_long (by omega) (by omega)
theorem take_in {w : World} {a : Option Addr} {vs : List Val} (h : ValsIn w a vs) (n : Nat) : ValsIn w a (vs.take n) := by
  intro i hi
  rw [List.length_take] at hi
  obtain ⟨b, o, e, h1⟩ := h i (by omega)
  refine ⟨b, o, e, ?_⟩
  rw [List.getElem_take]
  exact h1
theorem err_take {vs : List Val} (h : errL vs = 0) (n : Nat) : errL (vs.take n) = 0 := by
  obtain ⟨h1, h2⟩ := (errL_zero vs).1 h
  exact (errL_zero _).2 ⟨fun v hv => h1 v (List.mem_of_mem_take hv), Nat.le_trans (List.length_take_le' _ _) h2⟩
theorem enc_begin (vs : List Val) (n : Nat) : encL (vs.take n) <+: encL vs := by
  conv => rhs; rw [← List.take_append_drop n vs]
  rw [enc_append]
  exact List.prefix_append _ _
end Go.Proofs.Ytonbecjankghaaa
