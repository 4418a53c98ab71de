/- The walk of the law PackReads. -/
import Derived.Test.YtjchmpfncieegaaDoorSure
import Derived.Test.YtjchmpfncieegaaDoorRefRead2
import Derived.Test.YtjchmpfncieegaaDoorAs
namespace Go.Proofs.YtjchmpfncieegaaDoor
open Go.RowKit Go.Sort

theorem below_step {W w w' : World} (h : Below W.heap.size W w) (hb : Below w.heap.size w w') : Below W.heap.size W w' := h.trans (hb.mono h.size)
theorem num_ (e : Nat) (w : World) (hg : ErrType w) : Calls Tryd.prog 11 #[errV e] w fun r w' => r = .returned (.int .i64 e) ∧ Below w.heap.size w w' := by
  by_cases h : e = 0
  · subst h
    exact num11_nil w
  · rw [errV_not h]
    exact num11 e w hg

set_option maxRecDepth 100000 in
set_option maxHeartbeats 4000000 in
theorem reads_ (a : Option Addr) (xs : List Nat) (c : Nat) (most : Int) (w : World) (h : BytesIn w a xs) (hb : ∀ x ∈ xs, x < 256) (hc : a = none → c = 0) (hcap : xs.length ≤ c) (hlim : xs.length ≤ 140737488351232)
    (h0 : -9223372036854775808 ≤ most) (h1 : most ≤ 9223372036854775807) (hE : ErrType w) :
    Calls Tryd.prog 3 #[.slice a xs.length c, .int .i64 most] w fun e w' => e = .returned (.bool true) ∧ Below w.heap.size w w' := by
  have HTW : Hid (∀ W, BytesIn W a xs → Calls Tryd.prog 5 #[.slice a xs.length c] W fun e w' => ∃ g, e = .returned (.slice (some ⟨g, 0, none⟩) xs.length (xs.length + 30)) ∧ BytesIn w' (some ⟨g, 0, none⟩) xs ∧ Below W.heap.size W w') := fun W hW => (twin_ a xs c W hW hc (by omega)).mono fun e w' hh => ⟨_, hh.1, hh.2.1.cells.2.1, hh.2.2⟩
  have HU : Hid (∀ W g, BytesIn W (some ⟨g, 0, none⟩) xs → Calls Tryd.prog 4 #[.slice (some ⟨g, 0, none⟩) xs.length (xs.length + 30)] W fun e w' => e = .returned (.tuple #[.int .u64 (rdU xs).1, .int .i64 (rdU xs).2.1, errV (rdU xs).2.2]) ∧ w' = W) := fun W g hW => uint_ _ xs _ W hW hb (by omega)
  have HI : Hid (∀ W g, BytesIn W (some ⟨g, 0, none⟩) xs → Calls Tryd.prog 7 #[.slice (some ⟨g, 0, none⟩) xs.length (xs.length + 30)] W fun e w' => e = .returned (.tuple #[.int .i64 (rdI xs).1, .int .i64 (rdI xs).2.1, errV (rdI xs).2.2]) ∧ w' = W) := fun W g hW => int_ _ xs _ W hW hb (by omega)
  have HT : Hid (∀ W g, BytesIn W (some ⟨g, 0, none⟩) xs → Calls Tryd.prog 9 #[.slice (some ⟨g, 0, none⟩) xs.length (xs.length + 30), .int .i64 most] W fun e w' => e = .returned (.tuple #[.string (bs (rdT xs most).1), .int .i64 (rdT xs most).2.1, errV (rdT xs most).2.2]) ∧ w' = W) := fun W g hW => text_ _ xs _ most W hW hb (by omega) h0 h1 (by omega)
  have HRU : Hid (∀ W, BytesIn W a xs → Calls Tryd.prog 6 #[.slice a xs.length c] W fun e w' => e = .returned (.tuple #[.int .u64 (rdU xs).1, .int .i64 (rdU xs).2.1, .int .i64 (rdU xs).2.2]) ∧ w' = W) := fun W hW => ruint_ a xs c W hW hb (by omega)
  have HRI : Hid (∀ W, BytesIn W a xs → Calls Tryd.prog 8 #[.slice a xs.length c] W fun e w' => e = .returned (.tuple #[.int .i64 (rdI xs).1, .int .i64 (rdI xs).2.1, .int .i64 (rdI xs).2.2]) ∧ w' = W) := fun W hW => rint_ a xs c W hW hb (by omega)
  have HRT : Hid (∀ W, BytesIn W a xs → Calls Tryd.prog 10 #[.slice a xs.length c, .int .i64 most] W fun e w' => e = .returned (.tuple #[.string (bs (rdT xs most).1), .int .i64 (rdT xs most).2.1, .int .i64 (rdT xs most).2.2]) ∧ w' = W) := fun W hW => rtext_ a xs c most W hW hb (by omega) h0 h1 hcap
  have HSU : Hid (∀ W, Calls Tryd.prog 12 #[] W fun e w' => e = .returned (.bool true) ∧ Below W.heap.size W w') := sure_
  have HN1 : Hid (∀ W, ErrType W → Calls Tryd.prog 11 #[errV (rdU xs).2.2] W fun r w' => r = .returned (.int .i64 (rdU xs).2.2) ∧ Below W.heap.size W w') := fun W hW => num_ _ W hW
  have HN2 : Hid (∀ W, ErrType W → Calls Tryd.prog 11 #[errV (rdI xs).2.2] W fun r w' => r = .returned (.int .i64 (rdI xs).2.2) ∧ Below W.heap.size W w') := fun W hW => num_ _ W hW
  have HN3 : Hid (∀ W, ErrType W → Calls Tryd.prog 11 #[errV (rdT xs most).2.2] W fun r w' => r = .returned (.int .i64 (rdT xs most).2.2) ∧ Below W.heap.size W w') := fun W hW => num_ _ W hW
  have HB := Lib.hid h
  have HE := Lib.hid hE
  clear h hb hc hE hcap
  generalize (errV (rdU xs).2.2) = ev1 at *
  generalize (errV (rdI xs).2.2) = ev2 at *
  generalize (errV (rdT xs most).2.2) = ev3 at *
  generalize rdU xs = U at *
  generalize rdI xs = I at *
  generalize bs (rdT xs most).1 = ts at *
  generalize (rdT xs most).2.1 = tk at *
  generalize (rdT xs most).2.2 = te at *
  obtain ⟨uv, uk, ue⟩ := U
  obtain ⟨iv, ik, ie⟩ := I
  simp only at HU HI HRU HRI HN1 HN2
  have HXL : Hid (xs.length = xs.length) := Lib.hid rfl
  generalize xs.length = len at *
  clear HXL
  go_enter Tryd.func3, Tryd.ntmps3
  go_wp2_with fail
  refine (HTW.out w HB.out).mono ?_
  rintro e W1 ⟨g1, rfl, hB1, hb1⟩
  have HB1 := Lib.hid hB1
  have Hb1 := Lib.hid hb1
  clear hB1 hb1
  go_wp2_with fail
  refine (HU.out W1 g1 HB1.out).mono ?_
  rintro e W ⟨rfl, rfl⟩
  go_wp2_with fail
  refine (HRU.out W (HB.out.on Hb1.out)).mono ?_
  rintro e W2 ⟨rfl, rfl⟩
  go_wp2_with fail
  refine (HTW.out W2 (HB.out.on Hb1.out)).mono ?_
  rintro e W3 ⟨g3, rfl, hB3, hb3⟩
  have HB3 := Lib.hid hB3
  have Hb3 := Lib.hid (below_step Hb1.out hb3)
  clear hB3 hb3 Hb1 HB1
  go_wp2_with fail
  refine (HI.out W3 g3 HB3.out).mono ?_
  rintro e W4 ⟨rfl, rfl⟩
  go_wp2_with fail
  refine (HRI.out W4 (HB.out.on Hb3.out)).mono ?_
  rintro e W5 ⟨rfl, rfl⟩
  go_wp2_with fail
  refine (HTW.out W5 (HB.out.on Hb3.out)).mono ?_
  rintro e W6 ⟨g6, rfl, hB6, hb6⟩
  have HB6 := Lib.hid hB6
  have Hb6 := Lib.hid (below_step Hb3.out hb6)
  clear hB6 hb6 Hb3 HB3
  go_wp2_with fail
  refine (HT.out W6 g6 HB6.out).mono ?_
  rintro e W7 ⟨rfl, rfl⟩
  go_wp2_with fail
  refine (HRT.out W7 (HB.out.on Hb6.out)).mono ?_
  rintro e W8 ⟨rfl, rfl⟩
  clear HTW HU HI HT HRU HRI HRT HB6
  go_wp2_with fail
  refine (HN1.out W8 (HE.out.on Hb6.out)).mono ?_
  rintro e W9 ⟨rfl, hb9⟩
  have Hb9 := Lib.hid (below_step Hb6.out hb9)
  clear hb9 Hb6
  go_wp2_with fail
  refine (HN2.out W9 (HE.out.on Hb9.out)).mono ?_
  rintro e W10 ⟨rfl, hb10⟩
  have Hb10 := Lib.hid (below_step Hb9.out hb10)
  clear hb10 Hb9
  go_wp2_with fail
  refine (HN3.out W10 (HE.out.on Hb10.out)).mono ?_
  rintro e W11 ⟨rfl, hb11⟩
  have Hb11 := Lib.hid (below_step Hb10.out hb11)
  clear hb11 Hb10
  go_wp2_with fail
  refine (HSU.out W11).mono ?_
  rintro e W12 ⟨rfl, hb12⟩
  have Hb12 := Lib.hid (below_step Hb11.out hb12)
  clear hb12 Hb11
  go_wp2_with fail
  go_ret
  exact ⟨rfl, Hb12.out⟩
end Go.Proofs.YtjchmpfncieegaaDoor
