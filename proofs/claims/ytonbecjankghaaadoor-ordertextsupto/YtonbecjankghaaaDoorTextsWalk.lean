/- The walk of the law OrderTexts. -/
import Derived.Test.YtonbecjankghaaaDoorOSure
import Derived.Test.YtonbecjankghaaaDoorRDec
import Derived.Test.YtonbecjankghaaaDoorRNx
import Derived.Test.YtonbecjankghaaaDoorOVals
import Derived.Test.YtonbecjankghaaaDoorOAs
namespace Go.Proofs.YtonbecjankghaaaDoor
open Go.RowKit Go.Sort

set_option maxRecDepth 100000 in
set_option maxHeartbeats 4000000 in
/-- What OrderTexts says. -/
theorem law_texts (a : Option Addr) (c : Nat) (vs : List Val) (s : ByteArray) (w : World) (h : ValsIn w a vs) (hw : ∀ x ∈ vs, inI x.n) (hlen : vs.length ≤ 1048576) (hnil : a = none → c = 0) (hs : s.size ≤ 1048576)
    (hm : ∃ m, w.cell? ⟨1, 0, none⟩ = some (.int .i64 m)) (hE : ErrType w) :
    Calls Tryd.prog 3 #[.slice a vs.length c, .string s] w fun e w' => e = .returned (.bool true) ∧ Below w.heap.size w w' := by
  have HI := Lib.hid h
  have HT := Lib.hid (twin_ a c vs w h (by omega) hnil)
  have HE : Hid (∀ W a1 c1, ValsIn W a1 vs → Calls Tryd.prog 4 #[.slice a1 vs.length c1] W fun e w' => e = .returned (.tuple #[.string ⟨(txtL vs).toArray⟩, errV 43 (errL vs)]) ∧ Below W.heap.size W w') := fun W a1 c1 h1 => encode_ a1 c1 vs W h1 hw (by omega)
  have HR : Hid (∀ W, ValsIn W a vs → Calls Tryd.prog 6 #[.slice a vs.length c] W fun e w' => e = .returned (.tuple #[.string ⟨(txtL vs).toArray⟩, .int .i64 (errL vs)]) ∧ Below W.heap.size W w') := fun W h1 => rencode_ a c vs W h1 hw (by omega)
  have HD : Hid (∀ W, Below w.heap.size w W → Calls Tryd.prog 7 #[.string s] W (Decoded W s.data.toList)) := fun W hW => decode_ s W (by omega) (by obtain ⟨m, hm⟩ := hm; exact ⟨m, (hW.cell (block_lt_of_cell hm)).trans hm⟩)
  have HRD : Hid (∀ W, Calls Tryd.prog 8 #[.string s] W (RDecoded W s.data.toList)) := fun W => rdecode_ s W hs
  obtain ⟨NA, NB, hNV⟩ : ∃ NA NB, nxtV s.data.toList = .tuple #[.string NA, .bool NB] := by
    unfold nxtV
    split
    · exact ⟨_, _, rfl⟩
    · exact ⟨_, _, rfl⟩
  have HX : Hid (∀ W, Calls Tryd.prog 9 #[.string s] W fun e w' => e = .returned (.tuple #[.string NA, .bool NB]) ∧ Below W.heap.size W w') := fun W => by rw [← hNV]; exact next_ s W (by omega)
  have HRX : Hid (∀ W, Calls Tryd.prog 10 #[.string s] W fun e w' => e = .returned (.tuple #[.string NA, .bool NB]) ∧ Below W.heap.size W w') := fun W => by rw [← hNV]; exact rnext_ s W (by omega)
  have HNU : Hid (∀ W n, Below w.heap.size w W → Calls Tryd.prog 11 #[errV 43 n] W fun e w' => e = .returned (.int .i64 n) ∧ Below W.heap.size W w') := fun W n hW => num_ n W (hE.on hW)
  have HVs : Hid (∀ W l a1 c1 a2 c2, l.length ≤ 16 → ValsIn W a1 l → ValsIn W a2 l → Calls Tryd.prog 12 #[.slice a1 l.length c1, .slice a2 l.length c2] W fun e w' => e = .returned (.bool true) ∧ Below W.heap.size W w') := fun W l a1 c1 a2 c2 hl i1 i2 => values_ a1 a2 c1 c2 l W i1 i2 (by omega)
  have HS : Hid (∀ W, Calls Tryd.prog 13 #[] W fun e w' => e = .returned (.bool true) ∧ Below W.heap.size W w') := fun W => sure_ W
  clear h hw hlen hnil hs hm hE hNV
  generalize (⟨(txtL vs).toArray⟩ : ByteArray) = TX at *
  obtain ⟨EN, hEN⟩ : ∃ E, errL vs = E := ⟨_, rfl⟩
  rw [hEN] at HE HR
  obtain ⟨EV, hEV⟩ : ∃ E, errV 43 EN = E := ⟨_, rfl⟩
  rw [hEV] at HE
  have HNE : Hid (∀ W, Below w.heap.size w W → Calls Tryd.prog 11 #[EV] W fun e w' => e = .returned (.int .i64 EN) ∧ Below W.heap.size W w') := fun W hW => by rw [← hEV]; exact HNU.out W EN hW
  clear hEN hEV
  generalize vs.length = L at *
  go_enter Tryd.func3, Tryd.ntmps3
  go_wp2_with fail
  refine HT.out.mono ?_
  rintro e w1 ⟨a1, c1, rfl, i1, _, b1⟩
  have HI1 := Lib.hid i1
  have HB1 := Lib.hid b1
  clear i1 b1 HT
  go_wp2_with fail
  refine (HE.out _ _ _ HI1.out).mono ?_
  rintro e w2 ⟨rfl, b2⟩
  have HB2 := Lib.hid (below_step HB1.out b2)
  clear b2 HB1 HI1 HE
  go_wp2_with fail
  refine (HR.out _ (HI.out.on HB2.out)).mono ?_
  rintro e w3 ⟨rfl, b3⟩
  have HB3 := Lib.hid (below_step HB2.out b3)
  clear b3 HB2 HR HI
  go_wp2_with fail
  refine (HD.out _ HB3.out).mono ?_
  rintro e w4 ⟨hd, b4⟩
  have HB4 := Lib.hid (below_step HB3.out b4)
  clear b4 HB3 HD
  rcases hd with ⟨l, ax, cx, ht, rfl, ix⟩ | ⟨hno, rfl⟩
  · have HX4 := Lib.hid ix
    have HTL := Lib.hid ht
    clear ix ht
    go_wp2_with fail
    refine (HRD.out _).mono ?_
    rintro e w5 ⟨hd, b5⟩
    have HB5 := Lib.hid (below_step HB4.out b5)
    have HX5 := Lib.hid (HX4.out.on b5)
    clear b5 HB4 HRD HX4
    rcases hd with ⟨l', ay, cy, ht', rfl, iy⟩ | ⟨hno, _⟩
    · obtain rfl := ht'.unique HTL.out
      have HY5 := Lib.hid iy
      have hl16 := ht'.2.1
      have HVl := Lib.hid (fun W => HVs.out W l' ax cx ay cy hl16)
      clear iy ht' HVs HTL hl16
      generalize l'.length = M at *
      go_wp2_with fail
      refine (HX.out _).mono ?_
      rintro e w6 ⟨rfl, b6⟩
      have HB6 := Lib.hid (below_step HB5.out b6)
      have HX6 := Lib.hid (HX5.out.on b6)
      have HY6 := Lib.hid (HY5.out.on b6)
      clear b6 HB5 HX
      go_wp2_with fail
      refine (HRX.out _).mono ?_
      rintro e w7 ⟨rfl, b7⟩
      have HB7 := Lib.hid (below_step HB6.out b7)
      have HX7 := Lib.hid (HX6.out.on b7)
      have HY7 := Lib.hid (HY6.out.on b7)
      clear b7 HB6 HRX
      go_wp2_with fail
      refine (HNE.out _ HB7.out).mono ?_
      rintro e w8 ⟨rfl, b8⟩
      have HB8 := Lib.hid (below_step HB7.out b8)
      have HX8 := Lib.hid (HX7.out.on b8)
      have HY8 := Lib.hid (HY7.out.on b8)
      clear b8 HB7 HNE
      go_wp2_with fail
      refine (HVl.out _ HX8.out HY8.out).mono ?_
      rintro e w9 ⟨rfl, b9⟩
      have HB9 := Lib.hid (below_step HB8.out b9)
      clear b9 HB8
      go_wp2_with fail
      refine (HNU.out _ 0 HB9.out).mono ?_
      rintro e wa ⟨rfl, ba⟩
      have HBa := Lib.hid (below_step HB9.out ba)
      clear ba HB9
      go_wp2_with fail
      refine (HS.out _).mono ?_
      rintro e wb ⟨rfl, bb⟩
      have HBb := Lib.hid (below_step HBa.out bb)
      clear bb HBa
      go_wp2_with fail
      go_ret
      exact ⟨rfl, HBb.out⟩
    · exact absurd HTL.out (hno _)
  · have HNO := Lib.hid hno
    clear hno
    go_wp2_with fail
    refine (HRD.out _).mono ?_
    rintro e w5 ⟨hd, b5⟩
    have HB5 := Lib.hid (below_step HB4.out b5)
    clear b5 HB4 HRD
    rcases hd with ⟨l', ay, cy, ht', rfl, iy⟩ | ⟨_, rfl⟩
    · exact absurd ht' (HNO.out _)
    · go_wp2_with fail
      refine (HX.out _).mono ?_
      rintro e w6 ⟨rfl, b6⟩
      have HB6 := Lib.hid (below_step HB5.out b6)
      clear b6 HB5 HX
      go_wp2_with fail
      refine (HRX.out _).mono ?_
      rintro e w7 ⟨rfl, b7⟩
      have HB7 := Lib.hid (below_step HB6.out b7)
      clear b7 HB6 HRX
      go_wp2_with fail
      refine (HNE.out _ HB7.out).mono ?_
      rintro e w8 ⟨rfl, b8⟩
      have HB8 := Lib.hid (below_step HB7.out b8)
      clear b8 HB7 HNE
      go_wp2_with fail
      refine (HVs.out _ [] none 0 none 0 (by simp) (valsIn_nil _ _) (valsIn_nil _ _)).mono ?_
      rintro e w9 ⟨rfl, b9⟩
      have HB9 := Lib.hid (below_step HB8.out b9)
      clear b9 HB8
      go_wp2_with fail
      refine (HNU.out _ 3 HB9.out).mono ?_
      rintro e wa ⟨rfl, ba⟩
      have HBa := Lib.hid (below_step HB9.out ba)
      clear ba HB9
      go_wp2_with fail
      refine (HS.out _).mono ?_
      rintro e wb ⟨rfl, bb⟩
      have HBb := Lib.hid (below_step HBa.out bb)
      clear bb HBa
      go_wp2_with fail
      go_ret
      exact ⟨rfl, HBb.out⟩
end Go.Proofs.YtonbecjankghaaaDoor
