/- The walk of the law LatticeMakes: it returns true. -/
import Derived.Test.YtoompephogamaaaGreatDoorMake
import Derived.Test.YtoompephogamaaaGreatDoorRFind
import Derived.Test.YtoompephogamaaaGreatDoorRText
import Derived.Test.YtoompephogamaaaGreatDoorRNew
import Derived.Test.YtoompephogamaaaGreatDoorSure
import Derived.Test.YtoompephogamaaaGreatDoorAs
namespace Go.Proofs.YtoompephogamaaaGreatDoor
open Go.RowKit Go.Sort

set_option maxHeartbeats 4000000 in
set_option maxRecDepth 100000 in
theorem makes_no (a : Option Addr) (c : Nat) (xr : Int) (xc : Nat) (i : Int) (ls : List Lab) (w : World) (h : LabsIn w a ls) (hw : allW ls) (hn : ls.length * 16 ≤ 140737488355328) (hnil : ls.length = 0 → a = none → c = 0) (hne : newErr ls ≠ 0) (hE : ErrType w) :
    Calls Tryz.prog 3 #[.slice a ls.length c, .agg #[.int .i64 xr, .int .u32 xc], .int .i64 i] w fun e w' => e = .returned (.bool true) ∧ Below w.heap.size w w' := by
  have hal : Below w.heap.size w (w.alloc (.cells #[.int .i64 xr, .int .u32 xc] 25)) := (Below.refl _ _).alloc (Nat.le_refl _) _
  have HT := Lib.hid (twin_ a c ls _ (h.on hal) hn hnil)
  have HNEW : Hid (∀ (a : Option Addr) (c : Nat) (W : World), LabsIn W a ls → Calls Tryz.prog 6 #[.slice a ls.length c] W fun e w' => Below W.heap.size W w' ∧ Says ls (newErr ls) e w') := fun a c W hh => new_ a c ls W hh hw
  have HRN : Hid (∀ (W : World), Below w.heap.size w W → Calls Tryz.prog 7 #[.slice a ls.length c] W fun e w' => e = .returned (.int .i64 (newErr ls)) ∧ Below W.heap.size W w') := fun W hW => r2New_ a c ls W (h.on hW) hw
  have HE : Hid (∀ W, Below w.heap.size w W → ErrType W) := fun W hW => hE.on hW
  clear h hn hnil hw hE
  generalize ls.length = n at *
  go_enter Tryz.func3, Tryz.ntmps3
  go_wp2_with fail
  refine HT.out.mono ?_
  rintro e w1 ⟨a1, c1, rfl, hin1, hb1⟩
  have hbw1 : Below w.heap.size w w1 := hal.trans (hb1.mono hal.size)
  have HN1 := Lib.hid (HNEW.out a1 c1 w1 hin1)
  clear hin1 HT hb1 hal
  go_wp2_with fail
  refine HN1.out.mono ?_
  rintro e w2 ⟨hb2, p, er, rfl, ⟨_, rfl, rfl⟩ | ⟨h0, _⟩⟩
  · have hb3 : Below w.heap.size w w2 := hbw1.trans (hb2.mono hbw1.size)
    have HR := Lib.hid (HRN.out w2 hb3)
    clear HN1 HRN hb2
    generalize newErr ls = k at *
    go_wp2_with fail
    refine HR.out.mono ?_
    rintro e w3 ⟨rfl, hb4⟩
    have hb5 : Below w.heap.size w w3 := hb3.trans (hb4.mono hb3.size)
    have HN := Lib.hid (num11 k w3 (HE.out w3 hb5))
    clear HR hb3 hb4
    go_wp2_with fail
    refine HN.out.mono ?_
    rintro e w4 ⟨rfl, hb6⟩
    have hb7 : Below w.heap.size w w4 := hb5.trans (hb6.mono hb5.size)
    clear HN hb6 hb5
    go_wp2_with fail
    refine (sure_ _).mono ?_
    rintro e w5 ⟨rfl, hb8⟩
    have hb9 : Below w.heap.size w w5 := hb7.trans (hb8.mono hb7.size)
    go_wp2_with fail
    go_ret
    exact ⟨rfl, hb9⟩
  · exact absurd h0 hne
end Go.Proofs.YtoompephogamaaaGreatDoor
