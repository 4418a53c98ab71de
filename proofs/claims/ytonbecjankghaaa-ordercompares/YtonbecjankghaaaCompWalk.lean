/- The walk of the law OrderCompares. -/
import Derived.Test.YtonbecjankghaaaOSure
import Derived.Test.YtonbecjankghaaaOCmp
namespace Go.Proofs.Ytonbecjankghaaa
open Go.RowKit Go.Sort

set_option maxHeartbeats 1000000 in
theorem law_compares (a a' : Option Addr) (c c' : Nat) (xs ys : List Val) (w : World) (h : ValsIn w a xs) (h' : ValsIn w a' ys) (hlen : xs.length * 40 ≤ 140737488355328) (hlen' : ys.length * 40 ≤ 140737488355328) (hnil : a = none → c = 0) (hnil' : a' = none → c' = 0) :
    Calls Try.prog 3 #[.slice a xs.length c, .slice a' ys.length c'] w fun e w' => e = .returned (.bool true) ∧ Below w.heap.size w w' := by
  have HI := Lib.hid h
  have HI' := Lib.hid h'
  have HT := Lib.hid (twin_ a c xs w h hlen hnil)
  have HT' : Hid (∀ W, ValsIn W a' ys → Calls Try.prog 7 #[.slice a' ys.length c'] W fun e w' => ∃ a1 c1, e = .returned (.slice a1 ys.length c1) ∧ ValsIn w' a1 ys ∧ (a1 = none → c1 = 0) ∧ Below W.heap.size W w') := fun W hW => twin_ a' c' ys W hW hlen' hnil'
  have HC : Hid (∀ W a1 c1 a2 c2, ValsIn W a1 xs → ValsIn W a2 ys → Calls Try.prog 6 #[.slice a1 xs.length c1, .slice a2 ys.length c2] W fun e w' => e = .returned (.int .i64 (cmpL xs ys)) ∧ Below W.heap.size W w') := fun W a1 c1 a2 c2 h1 h2 => compare_ a1 a2 c1 c2 xs ys W h1 h2 (by omega)
  have HR : Hid (∀ W, ValsIn W a xs → ValsIn W a' ys → Calls Try.prog 8 #[.slice a xs.length c, .slice a' ys.length c'] W fun e w' => e = .returned (.int .i64 (cmpL xs ys)) ∧ Below W.heap.size W w') := fun W h1 h2 => rcompare_ a a' c c' xs ys W h1 h2 (by omega)
  have HS : Hid (∀ W, Calls Try.prog 9 #[] W fun e w' => e = .returned (.bool true) ∧ Below W.heap.size W w') := fun W => sure_ W
  clear h h' hlen hlen' hnil hnil'
  generalize cmpL xs ys = R at *
  generalize xs.length = L at *
  generalize ys.length = M at *
  go_enter Try.func3, Try.ntmps3
  go_wp2_with fail
  refine HT.out.mono ?_
  rintro e w1 ⟨a1, c1, rfl, i1, _, b1⟩
  have HI1 := Lib.hid i1
  have HB1 := Lib.hid b1
  clear i1 b1 HT
  go_wp2_with fail
  refine (HT'.out _ (HI'.out.on HB1.out)).mono ?_
  rintro e w2 ⟨a2, c2, rfl, i2, _, b2⟩
  have HI2 := Lib.hid i2
  have HI12 := Lib.hid (HI1.out.on b2)
  have HB2 := Lib.hid (below_step HB1.out b2)
  clear i2 b2 HT' HI1 HB1
  go_wp2_with fail
  refine (HC.out _ _ _ _ _ HI12.out HI2.out).mono ?_
  rintro e w3 ⟨rfl, b3⟩
  have HB3 := Lib.hid (below_step HB2.out b3)
  clear b3 HC HI12 HI2 HB2
  go_wp2_with fail
  refine (HR.out _ (HI.out.on HB3.out) (HI'.out.on HB3.out)).mono ?_
  rintro e w4 ⟨rfl, b4⟩
  have HB4 := Lib.hid (below_step HB3.out b4)
  clear b4 HR HB3
  go_wp2_with fail
  refine (HS.out _).mono ?_
  rintro e w5 ⟨rfl, b5⟩
  have HB5 := Lib.hid (below_step HB4.out b5)
  clear b5 HS HB4
  go_wp2_with fail
  go_ret
  exact ⟨rfl, HB5.out⟩
end Go.Proofs.Ytonbecjankghaaa
