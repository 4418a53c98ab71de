/- node.fillChild: a walk for each of its ways. -/
import Derived.Test.YtagamkahfiackaaGreatDoorVJoin
namespace Go.Proofs.YtagamkahfiackaaGreatDoor
open Go.RowKit Go.Sort

set_option maxRecDepth 100000 in
set_option maxHeartbeats 1000000 in
theorem fill_ok0 {w : World} {R : Ending → World → Prop} {q c gk nk ck ni : Nat} (c1 : w.cell? ⟨q, 1, none⟩ = some (.slice (some ⟨gk, 0, none⟩) nk ck)) (k0 : w.cell? ⟨gk, 0, none⟩ = some (.pointer (some ⟨c, 0, none⟩))) (hnk : nk = ni + 1) (hni : ni ≤ 100) (H0 : Calls Tryz.prog 76 #[.pointer (some ⟨c, 0, none⟩)] w fun e w' => e = .returned (.bool false) ∧ w' = w) (H3 : R (.returned (.tuple #[])) w) :
    Calls Tryz.prog 64 #[.pointer (some ⟨q, 0, none⟩), .int .i64 0] w R := by
  have hx1 : (0 : Int) < nk := by omega
  have G0 := Lib.hid H0
  have G3 := Lib.hid H3
  clear hnk hni H0 H3
  go_enter Tryz.func64, Tryz.ntmps64
  go_wp2_with (first
    | (go_at_call 76; refine G0.out.mono ?_; rintro e w1 ⟨rfl, hw⟩; have hw := hw.symm; subst hw)
    | fail)
  go_end0
  exact G3.out
set_option maxRecDepth 100000 in
set_option maxHeartbeats 1000000 in
theorem fill_ok1 {w : World} {R : Ending → World → Prop} {q c gk nk ck ni : Nat} {j : Nat} (c1 : w.cell? ⟨q, 1, none⟩ = some (.slice (some ⟨gk, 0, none⟩) nk ck)) (k0 : w.cell? ⟨gk, j + 1, none⟩ = some (.pointer (some ⟨c, 0, none⟩))) (hnk : nk = ni + 1) (hni : ni ≤ 100) (hj : j + 1 ≤ ni) (H0 : Calls Tryz.prog 76 #[.pointer (some ⟨c, 0, none⟩)] w fun e w' => e = .returned (.bool false) ∧ w' = w) (H3 : R (.returned (.tuple #[])) w) :
    Calls Tryz.prog 64 #[.pointer (some ⟨q, 0, none⟩), .int .i64 ((j : Int) + 1)] w R := by
  have hw1 := wraps_i64 ((j : Int) + 1) (by omega) (by omega)
  have hw0 := wraps_i64 (j : Int) (by omega) (by omega)
  have htn : ((j : Int) + 1).toNat = j + 1 := by omega
  have hx1 : (j : Int) + 1 < nk := by omega
  have hx2 : (j : Int) < nk := by omega
  have hp : (0 : Int) < (j : Int) + 1 := by omega
  have hp2 : (0 : Int) ≤ (j : Int) + 1 := by omega
  have G0 := Lib.hid H0
  have G3 := Lib.hid H3
  clear hnk hni H0 H3 hj
  go_enter Tryz.func64, Tryz.ntmps64
  go_wp2_with (first
    | (go_at_call 76; refine G0.out.mono ?_; rintro e w1 ⟨rfl, hw⟩; have hw := hw.symm; subst hw)
    | fail)
  go_end0
  exact G3.out
set_option maxRecDepth 100000 in
set_option maxHeartbeats 1000000 in
theorem fill_B {w : World} {R : Ending → World → Prop} {q c gk nk ck ni : Nat} {j : Nat} {a : Nat} (c1 : w.cell? ⟨q, 1, none⟩ = some (.slice (some ⟨gk, 0, none⟩) nk ck)) (k0 : w.cell? ⟨gk, j + 1, none⟩ = some (.pointer (some ⟨c, 0, none⟩))) (hnk : nk = ni + 1) (hni : ni ≤ 100) (hj : j + 1 ≤ ni) (H0 : Calls Tryz.prog 76 #[.pointer (some ⟨c, 0, none⟩)] w fun e w' => e = .returned (.bool true) ∧ w' = w) (k1 : w.cell? ⟨gk, j, none⟩ = some (.pointer (some ⟨a, 0, none⟩))) (H1 : Calls Tryz.prog 77 #[.pointer (some ⟨a, 0, none⟩)] w fun e w' => e = .returned (.bool true) ∧ w' = w) (H3 : Calls Tryz.prog 78 #[.pointer (some ⟨q, 0, none⟩), .int .i64 j] w fun e w' => e = .returned (.tuple #[]) ∧ R (.returned (.tuple #[])) w') :
    Calls Tryz.prog 64 #[.pointer (some ⟨q, 0, none⟩), .int .i64 ((j : Int) + 1)] w R := by
  have hw1 := wraps_i64 ((j : Int) + 1) (by omega) (by omega)
  have hw0 := wraps_i64 (j : Int) (by omega) (by omega)
  have htn : ((j : Int) + 1).toNat = j + 1 := by omega
  have hx1 : (j : Int) + 1 < nk := by omega
  have hx2 : (j : Int) < nk := by omega
  have hp : (0 : Int) < (j : Int) + 1 := by omega
  have hp2 : (0 : Int) ≤ (j : Int) + 1 := by omega
  have G0 := Lib.hid H0
  have G1 := Lib.hid H1
  have G3 := Lib.hid H3
  clear hnk hni H0 H3 hj H1
  go_enter Tryz.func64, Tryz.ntmps64
  go_wp2_with (first
    | (go_at_call 76; refine G0.out.mono ?_; rintro e w1 ⟨rfl, hw⟩; have hw := hw.symm; subst hw)
    | (go_at_call 77; refine G1.out.mono ?_; rintro e w2 ⟨rfl, hw⟩; have hw := hw.symm; subst hw)
    | (go_at_call 78; refine G3.out.mono ?_; rintro e w4 ⟨rfl, hz⟩; have HZ := Lib.hid hz; clear hz)
    | fail)
  go_end0
  exact HZ.out
set_option maxRecDepth 100000 in
set_option maxHeartbeats 1000000 in
theorem fill_C0 {w : World} {R : Ending → World → Prop} {q c gk nk ck ni ci : Nat} {ai : Option Addr} {b : Nat} (c0 : w.cell? ⟨q, 0, none⟩ = some (.slice ai ni ci)) (c1 : w.cell? ⟨q, 1, none⟩ = some (.slice (some ⟨gk, 0, none⟩) nk ck)) (k0 : w.cell? ⟨gk, 0, none⟩ = some (.pointer (some ⟨c, 0, none⟩))) (hnk : nk = ni + 1) (hni : ni ≤ 100) (H0 : Calls Tryz.prog 76 #[.pointer (some ⟨c, 0, none⟩)] w fun e w' => e = .returned (.bool true) ∧ w' = w) (k2 : w.cell? ⟨gk, 1, none⟩ = some (.pointer (some ⟨b, 0, none⟩))) (H2 : Calls Tryz.prog 77 #[.pointer (some ⟨b, 0, none⟩)] w fun e w' => e = .returned (.bool true) ∧ w' = w) (hr : 0 < ni) (H3 : Calls Tryz.prog 79 #[.pointer (some ⟨q, 0, none⟩), .int .i64 0] w fun e w' => e = .returned (.tuple #[]) ∧ R (.returned (.tuple #[])) w') :
    Calls Tryz.prog 64 #[.pointer (some ⟨q, 0, none⟩), .int .i64 0] w R := by
  have hx1 : (0 : Int) < nk := by omega
  have hx3 : (1 : Int) < nk := by omega
  have hx4 : (0 : Int) < ni := by omega
  have G0 := Lib.hid H0
  have G2 := Lib.hid H2
  have G3 := Lib.hid H3
  clear hnk hni H0 H3 H2 hr
  go_enter Tryz.func64, Tryz.ntmps64
  go_wp2_with (first
    | (go_at_call 76; refine G0.out.mono ?_; rintro e w1 ⟨rfl, hw⟩; have hw := hw.symm; subst hw)
    | (go_at_call 77; refine G2.out.mono ?_; rintro e w2 ⟨rfl, hw⟩; have hw := hw.symm; subst hw)
    | (go_at_call 79; refine G3.out.mono ?_; rintro e w4 ⟨rfl, hz⟩; have HZ := Lib.hid hz; clear hz)
    | fail)
  go_end0
  exact HZ.out
set_option maxRecDepth 100000 in
set_option maxHeartbeats 1000000 in
theorem fill_C1 {w : World} {R : Ending → World → Prop} {q c gk nk ck ni ci : Nat} {ai : Option Addr} {j : Nat} {a : Nat} {b : Nat} (c0 : w.cell? ⟨q, 0, none⟩ = some (.slice ai ni ci)) (c1 : w.cell? ⟨q, 1, none⟩ = some (.slice (some ⟨gk, 0, none⟩) nk ck)) (k0 : w.cell? ⟨gk, j + 1, none⟩ = some (.pointer (some ⟨c, 0, none⟩))) (hnk : nk = ni + 1) (hni : ni ≤ 100) (H0 : Calls Tryz.prog 76 #[.pointer (some ⟨c, 0, none⟩)] w fun e w' => e = .returned (.bool true) ∧ w' = w) (k1 : w.cell? ⟨gk, j, none⟩ = some (.pointer (some ⟨a, 0, none⟩))) (H1 : Calls Tryz.prog 77 #[.pointer (some ⟨a, 0, none⟩)] w fun e w' => e = .returned (.bool false) ∧ w' = w) (k2 : w.cell? ⟨gk, j + 1 + 1, none⟩ = some (.pointer (some ⟨b, 0, none⟩))) (H2 : Calls Tryz.prog 77 #[.pointer (some ⟨b, 0, none⟩)] w fun e w' => e = .returned (.bool true) ∧ w' = w) (hr : j + 1 < ni) (H3 : Calls Tryz.prog 79 #[.pointer (some ⟨q, 0, none⟩), .int .i64 ((j : Int) + 1)] w fun e w' => e = .returned (.tuple #[]) ∧ R (.returned (.tuple #[])) w') :
    Calls Tryz.prog 64 #[.pointer (some ⟨q, 0, none⟩), .int .i64 ((j : Int) + 1)] w R := by
  have hw1 := wraps_i64 ((j : Int) + 1) (by omega) (by omega)
  have hw0 := wraps_i64 (j : Int) (by omega) (by omega)
  have htn : ((j : Int) + 1).toNat = j + 1 := by omega
  have hx1 : (j : Int) + 1 < nk := by omega
  have hx2 : (j : Int) < nk := by omega
  have hp : (0 : Int) < (j : Int) + 1 := by omega
  have hp2 : (0 : Int) ≤ (j : Int) + 1 := by omega
  have hx3 : (j : Int) + 1 + 1 < nk := by omega
  have hx4 : (j : Int) + 1 < ni := by omega
  have hw2 := wraps_i64 ((j : Int) + 1 + 1) (by omega) (by omega)
  have htn2 : ((j : Int) + 1 + 1).toNat = j + 1 + 1 := by omega
  have hp3 : (0 : Int) ≤ (j : Int) + 1 + 1 := by omega
  have G0 := Lib.hid H0
  have G1 := Lib.hid H1
  have G2 := Lib.hid H2
  have G3 := Lib.hid H3
  clear hnk hni H0 H3 H1 H2 hr
  go_enter Tryz.func64, Tryz.ntmps64
  go_wp2_with (first
    | (go_at_call 76; refine G0.out.mono ?_; rintro e w1 ⟨rfl, hw⟩; have hw := hw.symm; subst hw)
    | (go_at_call_of 77 (#[.pointer (some ⟨a, 0, none⟩)] : Array Value); refine G1.out.mono ?_; rintro e w2 ⟨rfl, hw⟩; have hw := hw.symm; subst hw)
    | (go_at_call_of 77 (#[.pointer (some ⟨b, 0, none⟩)] : Array Value); refine G2.out.mono ?_; rintro e w3 ⟨rfl, hw⟩; have hw := hw.symm; subst hw)
    | (go_at_call 79; refine G3.out.mono ?_; rintro e w4 ⟨rfl, hz⟩; have HZ := Lib.hid hz; clear hz)
    | fail)
  go_end0
  exact HZ.out
set_option maxRecDepth 100000 in
set_option maxHeartbeats 1000000 in
theorem fill_D0 {w : World} {R : Ending → World → Prop} {q c gk nk ck ni ci : Nat} {ai : Option Addr} {j : Nat} {a : Nat} (c0 : w.cell? ⟨q, 0, none⟩ = some (.slice ai ni ci)) (c1 : w.cell? ⟨q, 1, none⟩ = some (.slice (some ⟨gk, 0, none⟩) nk ck)) (k0 : w.cell? ⟨gk, j + 1, none⟩ = some (.pointer (some ⟨c, 0, none⟩))) (hnk : nk = ni + 1) (hni : ni ≤ 100) (H0 : Calls Tryz.prog 76 #[.pointer (some ⟨c, 0, none⟩)] w fun e w' => e = .returned (.bool true) ∧ w' = w) (k1 : w.cell? ⟨gk, j, none⟩ = some (.pointer (some ⟨a, 0, none⟩))) (H1 : Calls Tryz.prog 77 #[.pointer (some ⟨a, 0, none⟩)] w fun e w' => e = .returned (.bool false) ∧ w' = w) (hr : j + 1 = ni) (H3 : Calls Tryz.prog 80 #[.pointer (some ⟨q, 0, none⟩), .int .i64 j] w fun e w' => e = .returned (.tuple #[]) ∧ R (.returned (.tuple #[])) w') :
    Calls Tryz.prog 64 #[.pointer (some ⟨q, 0, none⟩), .int .i64 ((j : Int) + 1)] w R := by
  have hw1 := wraps_i64 ((j : Int) + 1) (by omega) (by omega)
  have hw0 := wraps_i64 (j : Int) (by omega) (by omega)
  have htn : ((j : Int) + 1).toNat = j + 1 := by omega
  have hx1 : (j : Int) + 1 < nk := by omega
  have hx2 : (j : Int) < nk := by omega
  have hp : (0 : Int) < (j : Int) + 1 := by omega
  have hp2 : (0 : Int) ≤ (j : Int) + 1 := by omega
  have hx4 : ¬ ((j : Int) + 1 < ni) := by omega
  have G0 := Lib.hid H0
  have G1 := Lib.hid H1
  have G3 := Lib.hid H3
  clear hnk hni H0 H3 H1 hr
  go_enter Tryz.func64, Tryz.ntmps64
  go_wp2_with (first
    | (go_at_call 76; refine G0.out.mono ?_; rintro e w1 ⟨rfl, hw⟩; have hw := hw.symm; subst hw)
    | (go_at_call 77; refine G1.out.mono ?_; rintro e w2 ⟨rfl, hw⟩; have hw := hw.symm; subst hw)
    | (go_at_call 80; refine G3.out.mono ?_; rintro e w4 ⟨rfl, hz⟩; have HZ := Lib.hid hz; clear hz)
    | fail)
  go_end0
  exact HZ.out
set_option maxRecDepth 100000 in
set_option maxHeartbeats 1000000 in
theorem fill_D1 {w : World} {R : Ending → World → Prop} {q c gk nk ck ni ci : Nat} {ai : Option Addr} {j : Nat} {a : Nat} {b : Nat} (c0 : w.cell? ⟨q, 0, none⟩ = some (.slice ai ni ci)) (c1 : w.cell? ⟨q, 1, none⟩ = some (.slice (some ⟨gk, 0, none⟩) nk ck)) (k0 : w.cell? ⟨gk, j + 1, none⟩ = some (.pointer (some ⟨c, 0, none⟩))) (hnk : nk = ni + 1) (hni : ni ≤ 100) (H0 : Calls Tryz.prog 76 #[.pointer (some ⟨c, 0, none⟩)] w fun e w' => e = .returned (.bool true) ∧ w' = w) (k1 : w.cell? ⟨gk, j, none⟩ = some (.pointer (some ⟨a, 0, none⟩))) (H1 : Calls Tryz.prog 77 #[.pointer (some ⟨a, 0, none⟩)] w fun e w' => e = .returned (.bool false) ∧ w' = w) (k2 : w.cell? ⟨gk, j + 1 + 1, none⟩ = some (.pointer (some ⟨b, 0, none⟩))) (H2 : Calls Tryz.prog 77 #[.pointer (some ⟨b, 0, none⟩)] w fun e w' => e = .returned (.bool false) ∧ w' = w) (hr : j + 1 < ni) (H3 : Calls Tryz.prog 80 #[.pointer (some ⟨q, 0, none⟩), .int .i64 j] w fun e w' => e = .returned (.tuple #[]) ∧ R (.returned (.tuple #[])) w') :
    Calls Tryz.prog 64 #[.pointer (some ⟨q, 0, none⟩), .int .i64 ((j : Int) + 1)] w R := by
  have hw1 := wraps_i64 ((j : Int) + 1) (by omega) (by omega)
  have hw0 := wraps_i64 (j : Int) (by omega) (by omega)
  have htn : ((j : Int) + 1).toNat = j + 1 := by omega
  have hx1 : (j : Int) + 1 < nk := by omega
  have hx2 : (j : Int) < nk := by omega
  have hp : (0 : Int) < (j : Int) + 1 := by omega
  have hp2 : (0 : Int) ≤ (j : Int) + 1 := by omega
  have hx3 : (j : Int) + 1 + 1 < nk := by omega
  have hx4 : (j : Int) + 1 < ni := by omega
  have hw2 := wraps_i64 ((j : Int) + 1 + 1) (by omega) (by omega)
  have htn2 : ((j : Int) + 1 + 1).toNat = j + 1 + 1 := by omega
  have hp3 : (0 : Int) ≤ (j : Int) + 1 + 1 := by omega
  have G0 := Lib.hid H0
  have G1 := Lib.hid H1
  have G2 := Lib.hid H2
  have G3 := Lib.hid H3
  clear hnk hni H0 H3 H1 H2 hr
  go_enter Tryz.func64, Tryz.ntmps64
  go_wp2_with (first
    | (go_at_call 76; refine G0.out.mono ?_; rintro e w1 ⟨rfl, hw⟩; have hw := hw.symm; subst hw)
    | (go_at_call_of 77 (#[.pointer (some ⟨a, 0, none⟩)] : Array Value); refine G1.out.mono ?_; rintro e w2 ⟨rfl, hw⟩; have hw := hw.symm; subst hw)
    | (go_at_call_of 77 (#[.pointer (some ⟨b, 0, none⟩)] : Array Value); refine G2.out.mono ?_; rintro e w3 ⟨rfl, hw⟩; have hw := hw.symm; subst hw)
    | (go_at_call 80; refine G3.out.mono ?_; rintro e w4 ⟨rfl, hz⟩; have HZ := Lib.hid hz; clear hz)
    | fail)
  go_end0
  exact HZ.out
set_option maxRecDepth 100000 in
set_option maxHeartbeats 1000000 in
theorem fill_E {w : World} {R : Ending → World → Prop} {q c gk nk ck ni ci : Nat} {ai : Option Addr} {b : Nat} (c0 : w.cell? ⟨q, 0, none⟩ = some (.slice ai ni ci)) (c1 : w.cell? ⟨q, 1, none⟩ = some (.slice (some ⟨gk, 0, none⟩) nk ck)) (k0 : w.cell? ⟨gk, 0, none⟩ = some (.pointer (some ⟨c, 0, none⟩))) (hnk : nk = ni + 1) (hni : ni ≤ 100) (H0 : Calls Tryz.prog 76 #[.pointer (some ⟨c, 0, none⟩)] w fun e w' => e = .returned (.bool true) ∧ w' = w) (k2 : w.cell? ⟨gk, 1, none⟩ = some (.pointer (some ⟨b, 0, none⟩))) (H2 : Calls Tryz.prog 77 #[.pointer (some ⟨b, 0, none⟩)] w fun e w' => e = .returned (.bool false) ∧ w' = w) (hr : 0 < ni) (H3 : Calls Tryz.prog 80 #[.pointer (some ⟨q, 0, none⟩), .int .i64 0] w fun e w' => e = .returned (.tuple #[]) ∧ R (.returned (.tuple #[])) w') :
    Calls Tryz.prog 64 #[.pointer (some ⟨q, 0, none⟩), .int .i64 0] w R := by
  have hx1 : (0 : Int) < nk := by omega
  have hx3 : (1 : Int) < nk := by omega
  have hx4 : (0 : Int) < ni := by omega
  have G0 := Lib.hid H0
  have G2 := Lib.hid H2
  have G3 := Lib.hid H3
  clear hnk hni H0 H3 H2 hr
  go_enter Tryz.func64, Tryz.ntmps64
  go_wp2_with (first
    | (go_at_call 76; refine G0.out.mono ?_; rintro e w1 ⟨rfl, hw⟩; have hw := hw.symm; subst hw)
    | (go_at_call 77; refine G2.out.mono ?_; rintro e w2 ⟨rfl, hw⟩; have hw := hw.symm; subst hw)
    | (go_at_call 80; refine G3.out.mono ?_; rintro e w4 ⟨rfl, hz⟩; have HZ := Lib.hid hz; clear hz)
    | fail)
  go_end0
  exact HZ.out
end Go.Proofs.YtagamkahfiackaaGreatDoor
