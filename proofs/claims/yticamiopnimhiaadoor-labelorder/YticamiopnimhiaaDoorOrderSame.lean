/- The walk of the law LabelOrder: it returns true. -/
import Derived.Test.YticamiopnimhiaaDoorOrderBase
namespace Go.Proofs.YticamiopnimhiaaDoor
open Go.RowKit Go.Sort

set_option maxHeartbeats 2000000 in
set_option maxRecDepth 100000 in
theorem order5_same (r1 r3 : Int) (c1 c3 : Nat) (w : World) (h1 : c1 < 4294967296) (h3 : c3 < 4294967296) :
    Calls Tryd.prog 5 #[.agg #[.int .i64 r1, .int .u32 c1], .agg #[.int .i64 r1, .int .u32 c1], .agg #[.int .i64 r3, .int .u32 c3]] w fun e w' => e = .returned (.bool true) ∧ Below w.heap.size w w' := by
  have J19 : Hid (∀ W, Calls Tryd.prog 19 #[.agg #[.int .i64 r1, .int .u32 c1], .agg #[.int .i64 r1, .int .u32 c1]] W fun e w' => e = .returned (.agg #[.int .i64 (maxI r1 r1), .int .u32 (c1 ||| c1 : Nat)]) ∧ Below W.heap.size W w') := fun W => join19 r1 r1 c1 c1 W h1 h1
  have M20 : Hid (∀ W, Calls Tryd.prog 20 #[.agg #[.int .i64 r1, .int .u32 c1], .agg #[.int .i64 r1, .int .u32 c1]] W fun e w' => e = .returned (.agg #[.int .i64 (minI r1 r1), .int .u32 (c1 &&& c1 : Nat)]) ∧ Below W.heap.size W w') := fun W => meet20 r1 r1 c1 c1 W h1 h1
  have J19b := J19
  have M20b := M20
  have gja := join_dom1 (r := r1) (r' := r1) h1 h1
  have gjb := join_dom2 (r := r1) (r' := r1) h1 h1
  have gam := meet_dom1 (r := r1) (r' := r1) (c' := c1) h1
  have gbm := meet_dom2 (r := r1) (r' := r1) (c := c1) h1
  have gcj := join_up (r := r1) (r' := r1) (s := r3) (c := c1) (c' := c1) h3
  have gmc := meet_down (r := r1) (r' := r1) (s := r3) (d := c3) h1 h1
  rw [Bool.and_self] at gcj gmc
  have hj := or_lt h1 h1
  have hm := and_lt (c' := c1) h1
  have gaa := dom_refl (r := r1) h1
  have gs : domB r1 c1 r3 c3 = true → domB r1 c1 r3 c3 = true := fun h => h
  generalize maxI r1 r1 = rj at *
  generalize minI r1 r1 = rm at *
  generalize c1 ||| c1 = cj at *
  generalize c1 &&& c1 = cm at *
  have Dja := Lib.hid (fun V => dom_of V hj h1 gja)
  have Djb := Lib.hid (fun V => dom_of V hj h1 gjb)
  have Dam := Lib.hid (fun V => dom_of V h1 hm gam)
  have Dbm := Lib.hid (fun V => dom_of V h1 hm gbm)
  have Dcj := Lib.hid (fun V => dom_of V h3 hj gcj)
  have Dmc := Lib.hid (fun V => dom_of V hm h3 gmc)
  have Daa := Lib.hid (fun V => dom_of V h1 h1 gaa)
  have Dca := Lib.hid (fun V => dom_of V h3 h1 (rfl : domB r3 c3 r1 c1 = domB r3 c3 r1 c1))
  have Dac := Lib.hid (fun V => dom_of V h1 h3 (rfl : domB r1 c1 r3 c3 = domB r1 c1 r3 c3))
  have Dab := Daa
  have Dba := Daa
  have Dcb := Dca
  have Dbc := Dac
  generalize domB r3 c3 r1 c1 = u at *
  generalize domB r1 c1 r3 c3 = t at *
  clear gja gjb gam gbm gcj gmc gaa gs
  clear hj hm h1 h3
  go_enter Tryd.func5, Tryd.ntmps5
  go_wp2
  obtain ⟨⟨x0, x1⟩, ⟨x2, x3⟩, ⟨x4, x5⟩, hz, hb0⟩ := box3 w (.int .i64 r1) (.int .u32 c1) (.int .i64 r1) (.int .u32 c1) (.int .i64 r3) (.int .u32 c3)
  generalize ((w.alloc (Obj.cells #[Value.int IntKind.i64 r1, Value.int IntKind.u32 ↑c1] 24)).alloc (Obj.cells #[Value.int IntKind.i64 r1, Value.int IntKind.u32 ↑c1] 24)).alloc (Obj.cells #[Value.int IntKind.i64 r3, Value.int IntKind.u32 ↑c3] 24) = W at *
  have hz' : w.heap.size + 3 ≤ W.heap.size := by omega
  clear hz
  go_cut [7, 8] from 11 (fun p7 p8 wr => ∃ N7 N8, p7 = .pointer (some ⟨N7, 0, none⟩) ∧ p8 = .pointer (some ⟨N8, 0, none⟩) ∧ wr.cell? ⟨N7, 0, none⟩ = some (.int .i64 rj) ∧ wr.cell? ⟨N7, 1, none⟩ = some (.int .u32 cj) ∧ wr.cell? ⟨N8, 0, none⟩ = some (.int .i64 rm) ∧ wr.cell? ⟨N8, 1, none⟩ = some (.int .u32 cm) ∧ Below W.heap.size W wr)
  case first =>
    clear Dja Djb Dam Dbm Dcj Dmc Daa Dca Dac Dab Dba Dcb Dbc J19b M20b
    go_region_held3 (fun w' => Below W.heap.size W w' ∧ w'.cell? ⟨w.heap.size, 0, none⟩ = some (.int .i64 r1) ∧ w'.cell? ⟨w.heap.size, 1, none⟩ = some (.int .u32 c1) ∧ w'.cell? ⟨w.heap.size + 1, 0, none⟩ = some (.int .i64 r1) ∧ w'.cell? ⟨w.heap.size + 1, 1, none⟩ = some (.int .u32 c1))
      ((refine keep4 ?_ x0 x1 x2 x3; go_light; repeat (first | assumption | exact Below.refl _ _ | refine Below.drew ?_ | refine Below.alloc ?_ (by first | omega | (simp; done) | (simp; omega)) _ | refine Below.setCell ?_ (by first | (simp; done) | (simp; omega) | omega) _)))
      ((first | (go_at_call 19; refine (J19.out _).mono ?_; rintro e w' ⟨rfl, hcall⟩; have hbel := keepCall (by assumption) hcall; have hsz := hbel.size; have hsy := hcall.size; (try simp at hsy); (first | (have hq := after2 hcall; obtain ⟨⟨q0, q1, q2, q3⟩, ⟨q4, q5, q6, q7⟩, q8⟩ := hq) | (have hq := after2d hcall; obtain ⟨⟨q0, q1, q2, q3⟩, ⟨q4, q5, q6, q7⟩, q8⟩ := hq) | (have hq := after1 hcall; obtain ⟨q0, q1, q2, q3, q4, q5, q6⟩ := hq) | (have hq := after1d hcall; obtain ⟨q0, q1, q2, q3, q4, q5, q6⟩ := hq) | skip); (try (refine afterOldC (b := W.heap.size) (A := .int .i64 0) (B := .int .u32 0) hcall ?_ ?_ ?_ ?_ ?_; assumption; assumption; assumption; assumption; rintro ⟨p0, p1, p2, p3, p4, p5, p6⟩)); (try (refine afterOldC (b := W.heap.size + 1) (A := .int .i64 0) (B := .int .u32 0) hcall ?_ ?_ ?_ ?_ ?_; assumption; assumption; assumption; assumption; rintro ⟨p0, p1, p2, p3, p4, p5, p6⟩)); (try (refine afterOldA (b := W.heap.size) (A := .int .i64 0) (B := .int .u32 0) hcall ?_ ?_ ?_ ?_ ?_; assumption; assumption; assumption; assumption; rintro ⟨p0, p1, p2, p3, p4, p5, p6⟩))) | (go_at_call 20; refine (M20.out _).mono ?_; rintro e w' ⟨rfl, hcall⟩; have hbel := keepCall (by assumption) hcall; have hsz := hbel.size; have hsy := hcall.size; (try simp at hsy); (first | (have hq := after2 hcall; obtain ⟨⟨q0, q1, q2, q3⟩, ⟨q4, q5, q6, q7⟩, q8⟩ := hq) | (have hq := after2d hcall; obtain ⟨⟨q0, q1, q2, q3⟩, ⟨q4, q5, q6, q7⟩, q8⟩ := hq) | (have hq := after1 hcall; obtain ⟨q0, q1, q2, q3, q4, q5, q6⟩ := hq) | (have hq := after1d hcall; obtain ⟨q0, q1, q2, q3, q4, q5, q6⟩ := hq) | skip); (try (refine afterOldC (b := W.heap.size) (A := .int .i64 0) (B := .int .u32 0) hcall ?_ ?_ ?_ ?_ ?_; assumption; assumption; assumption; assumption; rintro ⟨p0, p1, p2, p3, p4, p5, p6⟩)); (try (refine afterOldC (b := W.heap.size + 1) (A := .int .i64 0) (B := .int .u32 0) hcall ?_ ?_ ?_ ?_ ?_; assumption; assumption; assumption; assumption; rintro ⟨p0, p1, p2, p3, p4, p5, p6⟩)); (try (refine afterOldA (b := W.heap.size) (A := .int .i64 0) (B := .int .u32 0) hcall ?_ ?_ ?_ ?_ ?_; assumption; assumption; assumption; assumption; rintro ⟨p0, p1, p2, p3, p4, p5, p6⟩)))))
    all_goals
      go_wp2_with fail
      go_meet
    all_goals (case rel =>
      go_light
      refine ⟨_, _, rfl, rfl, ?_, ?_, ?_, ?_, And.left (by assumption)⟩
      all_goals (simp [*, go_sem]))
  case rest =>
    obtain ⟨N7, N8, rfl, rfl, y0, y1, y2, y3, hbV⟩ := hcut
    have k0 := cell_regrown ((hbV.cell (block_lt_of_cell x0)).trans x0)
    have k1 := cell_regrown ((hbV.cell (block_lt_of_cell x1)).trans x1)
    have k2 := cell_regrown ((hbV.cell (block_lt_of_cell x2)).trans x2)
    have k3 := cell_regrown ((hbV.cell (block_lt_of_cell x3)).trans x3)
    have k4 := cell_regrown ((hbV.cell (block_lt_of_cell x4)).trans x4)
    have k5 := cell_regrown ((hbV.cell (block_lt_of_cell x5)).trans x5)
    have k6 := cell_regrown y0
    have k7 := cell_regrown y1
    have k8 := cell_regrown y2
    have k9 := cell_regrown y3
    have hbw : Below w.heap.size w wc := hb0.trans (hbV.mono hb0.size)
    obtain ⟨d0, os0, e0⟩ : ∃ d os, wc = grow (redrawn wc d) os := ⟨_, _, grow_self wc⟩
    rw [e0]
    clear e0 x0 x1 x2 x3 x4 x5 y0 y1 y2 y3 hbV hb0 hz' J19 M20
    go_upto_region 2 with fail
    go_cut [9] from 11 (fun sv wr => sv = .bool u ∧ ∃ p : Regrown, wr = grow (redrawn wc p.d) p.os)
    case first =>
      cases u
      · go_wp2_with fail
        refine (Dca.out wc _ _).mono ?_
        rintro e w1 ⟨rfl, ⟨d1, os1⟩, rfl⟩
        go_wp2_with fail
        go_meet
        case rel => exact ⟨rfl, ⟨_, _⟩, rfl⟩
      · go_wp2_with fail
        refine (Dca.out wc _ _).mono ?_
        rintro e w1 ⟨rfl, ⟨d1, os1⟩, rfl⟩
        go_wp2_with fail
        refine (Dcb.out wc _ _).mono ?_
        rintro e w1 ⟨rfl, ⟨d1, os1⟩, rfl⟩
        go_wp2_with fail
        go_meet
        case rel => exact ⟨rfl, ⟨_, _⟩, rfl⟩
    case' rest => obtain ⟨rfl, ⟨dd, oo⟩, rfl⟩ := hcut
    go_upto_region 3 with fail
    go_cut [10] from 11 (fun sv wr => sv = .bool t ∧ ∃ p : Regrown, wr = grow (redrawn wc p.d) p.os)
    case first =>
      cases t
      · go_wp2_with fail
        refine (Dac.out wc _ _).mono ?_
        rintro e w1 ⟨rfl, ⟨d1, os1⟩, rfl⟩
        go_wp2_with fail
        go_meet
        case rel => exact ⟨rfl, ⟨_, _⟩, rfl⟩
      · go_wp2_with fail
        refine (Dac.out wc _ _).mono ?_
        rintro e w1 ⟨rfl, ⟨d1, os1⟩, rfl⟩
        go_wp2_with fail
        refine (Dbc.out wc _ _).mono ?_
        rintro e w1 ⟨rfl, ⟨d1, os1⟩, rfl⟩
        go_wp2_with fail
        go_meet
        case rel => exact ⟨rfl, ⟨_, _⟩, rfl⟩
    case' rest => obtain ⟨rfl, ⟨dd, oo⟩, rfl⟩ := hcut
    go_upto_region 4 with fail
    go_cut [10, 67] from 11 (fun sd sv wr => sd = .bool t ∧ sv = .bool false ∧ ∃ p : Regrown, wr = grow (redrawn wc p.d) p.os)
    case first =>
      cases t
      · go_wp2_with fail
        refine (Daa.out wc _ _).mono ?_
        rintro e w1 ⟨rfl, ⟨d1, os1⟩, rfl⟩
        go_wp2_with fail
        refine (Dab.out wc _ _).mono ?_
        rintro e w1 ⟨rfl, ⟨d1, os1⟩, rfl⟩
        go_wp2_with fail
        refine (Dba.out wc _ _).mono ?_
        rintro e w1 ⟨rfl, ⟨d1, os1⟩, rfl⟩
        go_wp2_with fail
        refine (Dab.out wc _ _).mono ?_
        rintro e w1 ⟨rfl, ⟨d1, os1⟩, rfl⟩
        go_wp2_with fail
        refine (Dbc.out wc _ _).mono ?_
        rintro e w1 ⟨rfl, ⟨d1, os1⟩, rfl⟩
        go_wp2_with fail
        go_meet
        case rel => exact ⟨rfl, rfl, ⟨_, _⟩, rfl⟩
      · go_wp2_with fail
        refine (Daa.out wc _ _).mono ?_
        rintro e w1 ⟨rfl, ⟨d1, os1⟩, rfl⟩
        go_wp2_with fail
        refine (Dab.out wc _ _).mono ?_
        rintro e w1 ⟨rfl, ⟨d1, os1⟩, rfl⟩
        go_wp2_with fail
        refine (Dba.out wc _ _).mono ?_
        rintro e w1 ⟨rfl, ⟨d1, os1⟩, rfl⟩
        go_wp2_with fail
        refine (Dab.out wc _ _).mono ?_
        rintro e w1 ⟨rfl, ⟨d1, os1⟩, rfl⟩
        go_wp2_with fail
        refine (Dbc.out wc _ _).mono ?_
        rintro e w1 ⟨rfl, ⟨d1, os1⟩, rfl⟩
        go_wp2_with fail
        refine (Dac.out wc _ _).mono ?_
        rintro e w1 ⟨rfl, ⟨d1, os1⟩, rfl⟩
        go_wp2_with fail
        go_meet
        case rel => exact ⟨rfl, rfl, ⟨_, _⟩, rfl⟩
    case' rest => obtain ⟨rfl, rfl, ⟨dd, oo⟩, rfl⟩ := hcut
    go_upto_region 6 with fail
    go_cut [89] from 11 (fun sv wr => sv = .bool false ∧ ∃ p : Regrown, wr = grow (redrawn wc p.d) p.os)
    case first =>
      go_wp2_with fail
      refine (Dja.out wc _ _).mono ?_
      rintro e w1 ⟨rfl, ⟨d1, os1⟩, rfl⟩
      go_wp2_with fail
      refine (Djb.out wc _ _).mono ?_
      rintro e w1 ⟨rfl, ⟨d1, os1⟩, rfl⟩
      go_wp2_with fail
      refine (Dam.out wc _ _).mono ?_
      rintro e w1 ⟨rfl, ⟨d1, os1⟩, rfl⟩
      go_wp2_with fail
      refine (Dbm.out wc _ _).mono ?_
      rintro e w1 ⟨rfl, ⟨d1, os1⟩, rfl⟩
      go_wp2_with fail
      go_meet
      case rel => exact ⟨rfl, ⟨_, _⟩, rfl⟩
    case' rest => obtain ⟨rfl, ⟨dd, oo⟩, rfl⟩ := hcut
    go_upto_region 8 with fail
    have hbq := hbw.trans ((below_regrown wc dd oo).mono hbw.size)
    have m0 := cell_regrown (k0 dd oo)
    have m1 := cell_regrown (k1 dd oo)
    have m2 := cell_regrown (k2 dd oo)
    have m3 := cell_regrown (k3 dd oo)
    have m4 := cell_regrown (k4 dd oo)
    have m5 := cell_regrown (k5 dd oo)
    have m6 := cell_regrown (k6 dd oo)
    have m7 := cell_regrown (k7 dd oo)
    have m8 := cell_regrown (k8 dd oo)
    have m9 := cell_regrown (k9 dd oo)
    generalize grow (redrawn wc dd) oo = V at *
    clear k0 k1 k2 k3 k4 k5 k6 k7 k8 k9 hbw
    refine wp_region_quiet_below (by kernel_rfl) (by kernel_rfl) ?_
    repeat (quiet_step (first | (go_at_call_of 15 (#[Value.agg #[Value.int IntKind.i64 r3, Value.int IntKind.u32 ↑c3], Value.agg #[Value.int IntKind.i64 rj, Value.int IntKind.u32 ↑cj]] : Array Value); exact Dcj.out V _ _) | (go_at_call_of 15 (#[Value.agg #[Value.int IntKind.i64 rm, Value.int IntKind.u32 ↑cm], Value.agg #[Value.int IntKind.i64 r3, Value.int IntKind.u32 ↑c3]] : Array Value); exact Dmc.out V _ _) | (go_at_call 19; exact Calls.regrown_of (J19b.out _)) | (go_at_call 20; exact Calls.regrown_of (M20b.out _)) | (go_at_call 14; exact Calls.regrown_of (sure14 _))))
    refine wpQuiet_nil ?_
    intro _ hw'
    obtain ⟨⟨dq, osq⟩, hw''⟩ := hw'
    subst hw''
    have hbz := hbq.trans ((below_regrown V dq osq).mono hbq.size)
    generalize grow (redrawn V dq) osq = V2 at *
    go_wp2
    go_ret
    exact ⟨rfl, hbz⟩
end Go.Proofs.YticamiopnimhiaaDoor
