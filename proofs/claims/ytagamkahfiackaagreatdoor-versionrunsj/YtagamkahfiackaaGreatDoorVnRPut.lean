/- The document's Put. -/
import Derived.Test.YtagamkahfiackaaGreatDoorVnRRange
import Derived.Test.YtagamkahfiackaaGreatDoorVKeys
namespace Go.Proofs.YtagamkahfiackaaGreatDoor
open Go.RowKit Go.Sort

attribute [local go_sem] Oper.semAt_some
theorem app_rv {w : World} {N : Nat} {v : Value} {l : List RV} {x : RV} {B : Nat} (hown : RowRV w N v l) (hb : w.heap[B]? = some (.cells #[.string x.k, .int .i64 x.v.cm, .string x.v.tx, .bool x.v.gn] 63 (0, 0))) (hl : l.length ≤ 100000) (hN : N ≤ w.heap.size) :
    ∃ v' w', (Builtin.append_ #[27, 27] 27 #[v, .slice (some ⟨B, 0, none⟩) 1 1]).run Tryz.prog w = .ok v' w' ∧ RowRV w' N v' (l ++ [x]) ∧ w.grownBy w' v.ownBlock := by
  obtain ⟨i0, hi, hz0, hz1, hz2⟩ := info_parts infoRV
  have news : ∀ j u, (cR [x])[j]? = some u → w.cell? ((⟨B, 0, none⟩ : Addr).add j) = some u := fun j u hj => by
    rw [Addr.add_lit]
    match j, hj with
    | 0, hj => exact (cell_of hb rfl).trans hj
    | 1, hj => exact (cell_of hb rfl).trans hj
    | 2, hj => exact (cell_of hb rfl).trans hj
    | 3, hj => exact (cell_of hb rfl).trans hj
    | j + 4, hj => simp [cR, rvC] at hj
  obtain ⟨v', w', hr, h2, h3, _⟩ := run_append_own_at (P := Tryz.prog) w N 27 27 63 i0 (.agg #[.string ⟨#[]⟩, .int .i64 0, .string ⟨#[]⟩, .bool false]) 4 48 Tryz.underlying27 hi hz0 hz1 hz2 rfl (by decide) v l.length (cR l) hown ⟨B, 0, none⟩ 1 1 (cR [x]) (by rfl) news (cR_one [x]) (by unfold maxLen; omega) (by omega) hN
  refine ⟨v', w', hr, ?_, h3⟩
  unfold RowRV
  rw [cR_append, List.length_append]
  exact h2
theorem rv_below {w w' : World} {N : Nat} {v : Value} {l : List RV} (h : RowRV w N v l) (hN : N ≤ w.heap.size) (hg : w.grownBy w' v.ownBlock) : Below N w w' := by
  refine ⟨hg.os, hg.tape, hg.output, hg.size, fun k hk => hg.block k (by omega) fun e => ?_⟩
  rcases h.2 with ⟨rfl, _⟩ | ⟨g', cap, cur, rfl, hb, _⟩
  · cases e
  · simp only [Value.ownBlock, Option.some.injEq] at e
    omega
/-- One more behind one's own. -/
theorem rv_more {w w1 W0 : World} {v : Value} {l : List RV} (x : RV) (h : RowRV w W0.heap.size v l) (hb : Below W0.heap.size W0 w) (hw : Below w.heap.size w w1) (hl : l.length ≤ 1000) :
    ∃ v3 W3, (Builtin.append_ #[27, 27] 27 #[v, .slice (some ⟨w1.heap.size, 0, none⟩) 1 1]).run Tryz.prog (w1.alloc (.cells #[.string x.k, .int .i64 x.v.cm, .string x.v.tx, .bool x.v.gn] 63)) = .ok v3 W3 ∧ RowRV W3 W0.heap.size v3 (l ++ [x]) ∧ Below W0.heap.size W0 W3 := by
  have h1 := below_step hb hw
  have hbU := below_alloc w1 (.cells #[.string x.k, .int .i64 x.v.cm, .string x.v.tx, .bool x.v.gn] 63)
  have hrU : RowRV (w1.alloc (.cells #[.string x.k, .int .i64 x.v.cm, .string x.v.tx, .bool x.v.gn] 63)) W0.heap.size v l := row_on (row_on h hw) hbU
  obtain ⟨v3, W3, hr3, ho3, hg3⟩ := app_rv (x := x) (B := w1.heap.size) hrU (new_blk w1 _) (by omega) (Nat.le_trans h1.size hbU.size)
  exact ⟨v3, W3, hr3, ho3, (below_step h1 hbU).trans (rv_below hrU (Nat.le_trans h1.size hbU.size) hg3)⟩
def noTx (x : RV) : RV := ⟨x.k, x.v.cm, if x.v.gn = true then ⟨#[]⟩ else x.v.tx, x.v.gn⟩
def rvV (x : RV) : Value := .agg #[.string x.k, .int .i64 x.v.cm, .string x.v.tx, .bool x.v.gn]
/-- What Put tells. -/
def RPutTo (w : World) (v : Value) (R : List RV) (x : RV) (e : Ending) (w' : World) : Prop :=
  (R.any (lateR x) = true ∧ e = .returned (.tuple #[v, .int .i64 1]) ∧ Below w.heap.size w w') ∨
  (R.any (lateR x) = false ∧ ∃ v', e = .returned (.tuple #[v', .int .i64 0]) ∧ RowRV w' w.heap.size v' (putR R (noTx x)) ∧ Below w.heap.size w w')
set_option maxRecDepth 100000 in
set_option maxHeartbeats 1000000 in
theorem rput_low (w : World) (v : Value) (x : RV) (ht : x.v.cm < 1) : Calls Tryz.prog 20 #[v, rvV x] w fun e w' => e = .returned (.tuple #[v, .int .i64 1]) ∧ Below w.heap.size w w' := by
  obtain ⟨k, cm, tx, gn⟩ := x
  have HB := Lib.hid (below_alloc w (.cells #[.string k, .int .i64 cm, .string tx, .bool gn] 63))
  dsimp only at ht
  have ht' := decide_eq_true ht
  unfold rvV
  dsimp only
  go_enter Tryz.func20, Tryz.ntmps20
  go_wp2_with fail
  go_ret2
  exact ⟨rfl, HB.out⟩
theorem late_no (x : RV) (y : RV) : lateR (noTx x) y = lateR x y := rfl
theorem same_no (x : RV) (y : RV) : sameV (noTx x) y = sameV x y := rfl
theorem take_snoc' {R : List RV} {i : Nat} {x : RV} (hx : R[i]? = some x) : R.take (i + 1) = R.take i ++ [x] := take_snoc hx
set_option maxRecDepth 100000 in
set_option maxHeartbeats 8000000 in
theorem rput_ {w : World} {B : Nat} {v : Value} {R : List RV} (hr : RowRV w B v R) (hl : R.length ≤ 900) (x : RV) (h1 : 1 ≤ x.v.cm) : Calls Tryz.prog 20 #[v, rvV x] w (RPutTo w v R x) := by
  obtain ⟨a, c, rfl, hat⟩ := hr.items
  have HAt := Lib.hid hat
  have HX : Hid (∀ i, i < R.length → ∃ x, R[i]? = some x) := fun i hi => ⟨_, List.getElem?_eq_getElem hi⟩
  have HEnd : Hid (R.take R.length = R) := List.take_length
  have HLe : Hid (∀ i, ((R.take i).filter fun y => !sameV x y).length ≤ 1000) := fun i => Nat.le_trans (List.length_filter_le _ _) (by rw [List.length_take]; omega)
  obtain ⟨P, hP⟩ : ∃ P, P = RPutTo w (.slice a R.length c) R x := ⟨_, rfl⟩
  have HP1 : Hid (∀ w', R.any (lateR x) = true → Below w.heap.size w w' → P (.returned (.tuple #[.slice a R.length c, .int .i64 1])) w') := fun w' h hb => by rw [hP]; exact .inl ⟨h, rfl, hb⟩
  have HP2 : Hid (∀ w' v', R.any (lateR x) = false → RowRV w' w.heap.size v' ((R.filter fun y => !sameV x y) ++ [noTx x]) → Below w.heap.size w w' → P (.returned (.tuple #[v', .int .i64 0])) w') := fun w' v' h hrr hb => by rw [hP]; exact .inr ⟨h, v', rfl, hrr, hb⟩
  rw [← hP]
  clear hr hat hP
  have HLate : Hid (∀ (i : Nat) y, R[i]? = some y → lateR x y = true → R.any (lateR x) = true) := fun i y hy h => List.any_eq_true.2 ⟨y, List.mem_of_getElem? hy, h⟩
  generalize hL : R.length = L at *
  clear hL
  obtain ⟨k, cm, tx, gn⟩ := x
  unfold rvV
  dsimp only [noTx] at *
  cases gn with
  | true =>
    obtain ⟨W0, hW0⟩ : ∃ W0, W0 = w.alloc (.cells #[.string k, .int .i64 cm, .string ⟨#[]⟩, .bool true] 63) := ⟨_, rfl⟩
    have hnb := new_blk w (.cells #[.string k, .int .i64 cm, .string ⟨#[]⟩, .bool true] 63)
    have hal := below_alloc w (.cells #[.string k, .int .i64 cm, .string ⟨#[]⟩, .bool true] 63)
    have hW0b : W0.heap[w.heap.size]? = some (.cells #[.string k, .int .i64 cm, .string ⟨#[]⟩, .bool true] 63 (0, 0)) := by rw [hW0]; exact hnb
    have hBW : Below w.heap.size w W0 := by rw [hW0]; exact hal
    have hlt0 : w.heap.size < W0.heap.size := by rw [hW0]; simp [go_sem]
    obtain ⟨X, hX⟩ : ∃ X : RV, X = ⟨k, cm, tx, true⟩ := ⟨_, rfl⟩
    have HXk : Hid (X.k = k ∧ X.v.cm = cm) := by rw [hX]; exact ⟨rfl, rfl⟩
    have HP2' : Hid (∀ w' v', R.any (lateR X) = false → RowRV w' w.heap.size v' ((R.filter fun y => !sameV X y) ++ [⟨k, cm, ⟨#[]⟩, true⟩]) → Below w.heap.size w w' → P (.returned (.tuple #[v', .int .i64 0])) w') := by rw [hX]; exact HP2
    have HP1' : Hid (∀ w', R.any (lateR X) = true → Below w.heap.size w w' → P (.returned (.tuple #[.slice a L c, .int .i64 1])) w') := by rw [hX]; exact HP1
    have HLate' : Hid (∀ (i : Nat) y, R[i]? = some y → lateR X y = true → R.any (lateR X) = true) := by rw [hX]; exact HLate
    have HLe' : Hid (∀ i, ((R.take i).filter fun y => !sameV X y).length ≤ 1000) := by rw [hX]; exact HLe
    clear HP2 HP1 HLate HLe hX
    rename Hid (∀ w' v', _ → _ → _ → _) => HP2
    rename Hid (∀ w', R.any (lateR X) = true → _ → _) => HP1
    rename Hid (∀ (i : Nat) y, R[i]? = some y → lateR X y = true → R.any (lateR X) = true) => HLate
    rename Hid (∀ i, ((R.take i).filter fun y => !sameV X y).length ≤ 1000) => HLe
    have HBx : Hid (∀ V, Below W0.heap.size W0 V → V.cell? ⟨w.heap.size, 0, none⟩ = some (.string k) ∧ V.cell? ⟨w.heap.size, 1, none⟩ = some (.int .i64 cm) ∧ V.cell? ⟨w.heap.size, 2, none⟩ = some (.string ⟨#[]⟩) ∧ V.cell? ⟨w.heap.size, 3, none⟩ = some (.bool true)) := fun V hV => by
      have hb := (hV.block _ hlt0).trans hW0b
      exact ⟨cell_of hb rfl, cell_of hb rfl, cell_of hb rfl, cell_of hb rfl⟩
    have HBw : Hid (∀ V, Below W0.heap.size W0 V → Below w.heap.size w V) := fun V hV => below_step hBW hV
    have HB0 : Hid (RowRV W0 W0.heap.size (.slice none 0 0) ((R.take 0).filter fun y => !sameV X y) ∧ Below W0.heap.size W0 W0) := ⟨World.ownsRow_nil _ _ _ _, Below.refl _ _⟩
    have HBase : Hid (w.heap.size ≤ W0.heap.size) := Nat.le_of_lt hlt0
    have hlow : ¬ cm < 1 := by omega
    have hlow' := decide_eq_false hlow
    clear hnb hal hW0b hBW hlt0
    go_enter Tryz.func20, Tryz.ntmps20
    go_upto_region 5 with fail
    rw [← hW0]
    clear hW0
    generalize hn : w.heap.size = n at *
    have HNn := Lib.hid hn
    clear hn
    go_wp2_with fail
    go_loopg [6, 7] L (fun kx v6 v7 wr => ∃ i : Nat, v7 = .int .i64 i ∧ i ≤ L ∧ L - i ≤ kx ∧ Hid ((R.take i).any (lateR X) = false) ∧ Hid (RowRV wr W0.heap.size v6 ((R.take i).filter fun y => !sameV X y) ∧ Below W0.heap.size W0 wr))
    case atStart => exact ⟨0, rfl, Nat.zero_le _, by omega, rfl, HB0⟩
    case round =>
      clear HB0
      obtain ⟨i, rfl, hi, hkx, HJ, HI⟩ := hrel
      by_cases hlt : i < L
      · obtain ⟨y, hy⟩ := HX.out i hlt
        obtain ⟨g, rfl, hc⟩ := HAt.out i y hy
        have hw1 := wraps_i64 ((i : Int) + 1) (by omega) (by omega)
        have hlt' : (i : Int) < (L : Int) := by omega
        have hiL := decide_eq_true hlt
        have HIb : Hid (Below W0.heap.size W0 wr) := HI.out.2
        have hc' : ∀ V, Below W0.heap.size W0 V → _ := fun V hV => hc V (by have := HBw.out V hV; rw [HNn.out] at *; exact this)
        obtain ⟨b0, b1, b2, b3⟩ := HBx.out wr HIb.out
        obtain ⟨d1, d2, d3, d4⟩ := hc' wr HIb.out
        have HLy := Lib.hid (HLate.out i y hy)
        have HFs : Hid (∀ f : RV → Bool, (R.take (i + 1)).filter f = (R.take i).filter f ++ [y].filter f) := fun f => by rw [take_snoc hy, List.filter_append]
        have HAn : Hid ((R.take (i + 1)).any (lateR X) = lateR X y) := by show _ = _; rw [take_snoc hy, List.any_append, HJ.out]; simp
        have HCy := Lib.hid hc'
        clear hy hc hc' HX HAt HLate
        obtain ⟨yk, yc, yt, yg⟩ := y
        dsimp only at d1 d2 d3 d4 HCy
        by_cases hk : yk = k
        · subst hk
          rcases Int.lt_trichotomy yc cm with hq | hq | hq
          · have hg1 : decide (cm < yc) = false := decide_eq_false (by omega)
            have hg2 : (yc == cm) = false := beq_false_of_ne (by omega)
            have hl : lateR X ⟨yk, yc, yt, yg⟩ = false := by unfold lateR; rw [HXk.out.2]; simp [hg1]
            have hs : sameV X ⟨yk, yc, yt, yg⟩ = false := by unfold sameV; rw [HXk.out.2]; simp [hg2]
            have HJ2 : Hid ((R.take (i + 1)).any (lateR X) = false) := by show _ = _; rw [HAn.out, hl]
            clear hl HLy HAn
            have HS : Hid ((R.take (i + 1)).filter (fun y => !sameV X y) = (R.take i).filter (fun y => !sameV X y) ++ [⟨yk, yc, yt, yg⟩]) := by show _ = _; rw [HFs.out]; simp [hs]
            clear hs HFs
            have HIo : Hid (∀ V, Below wr.heap.size wr V → RowRV V W0.heap.size u6 ((R.take i).filter fun y => !sameV X y)) := fun V hV => row_on HI.out.1 hV
            go_wp2_with fail
            go_big_quiet (fail)
            have HWa : Hid (Below wr.heap.size wr (wr.drewN nq)) := below_drewN (Below.refl wr.heap.size wr) nq
            have HBa : Hid (Below W0.heap.size W0 (wr.drewN nq)) := below_step HIb.out (below_drewN (Below.refl wr.heap.size wr) nq)
            generalize wr.drewN nq = wa at *
            clear b0 b1 b2 b3 d1 d2 d3 d4
            obtain ⟨b0, b1, b2, b3⟩ := HBx.out wa HBa.out
            obtain ⟨d1, d2, d3, d4⟩ := HCy.out wa HBa.out
            go_wp2_with fail
            go_big_quiet (fail)
            have HWb : Hid (Below wr.heap.size wr (wa.drewN nq)) := below_step HWa.out (below_drewN (Below.refl wa.heap.size wa) nq)
            have HBb : Hid (Below W0.heap.size W0 (wa.drewN nq)) := below_step HBa.out (below_drewN (Below.refl wa.heap.size wa) nq)
            generalize wa.drewN nq = wb at *
            clear b0 b1 b2 b3 d1 d2 d3 d4
            obtain ⟨d1, d2, d3, d4⟩ := HCy.out wb HBb.out
            obtain ⟨v3, W3, hr3, ho3, hb3⟩ := rv_more (⟨yk, yc, yt, yg⟩ : RV) HI.out.1 HI.out.2 HWb.out (HLe.out i)
            have HI3 : Hid (RowRV W3 W0.heap.size v3 ((R.take (i + 1)).filter fun y => !sameV X y) ∧ Below W0.heap.size W0 W3) := ⟨by rw [HS.out]; exact ho3, hb3⟩
            clear ho3 hb3
            go_wp2_with (first | (refine wpList_exec rfl (exec_append rfl rfl rfl hr3) ?_; clear hr3) | fail)
            go_roundg (L - (i + 1))
            case measure => omega
            case rel => exact ⟨i + 1, by rw [show (i : Int) + 1 = ((i + 1 : Nat) : Int) by omega], by omega, Nat.le_refl _, HJ2, HI3⟩
          · subst hq
            have hg1 : decide (yc < yc) = false := decide_eq_false (by omega)
            have hg2 : (yc == yc) = true := by simp
            have hl : lateR X ⟨yk, yc, yt, yg⟩ = false := by unfold lateR; rw [HXk.out.2]; simp
            have hs : sameV X ⟨yk, yc, yt, yg⟩ = true := by unfold sameV; rw [HXk.out.2, HXk.out.1, eqk_self]; simp
            have HJ2 : Hid ((R.take (i + 1)).any (lateR X) = false) := by show _ = _; rw [HAn.out, hl]
            clear hl HLy HAn
            have HS : Hid ((R.take (i + 1)).filter (fun y => !sameV X y) = (R.take i).filter (fun y => !sameV X y)) := by show _ = _; rw [HFs.out]; simp [hs]
            clear hs HFs
            go_wp2_with fail
            go_big_quiet (fail)
            have HWa : Hid (Below wr.heap.size wr (wr.drewN nq)) := below_drewN (Below.refl wr.heap.size wr) nq
            have HBa : Hid (Below W0.heap.size W0 (wr.drewN nq)) := below_step HIb.out (below_drewN (Below.refl wr.heap.size wr) nq)
            generalize wr.drewN nq = wa at *
            clear b0 b1 b2 b3 d1 d2 d3 d4
            obtain ⟨b0, b1, b2, b3⟩ := HBx.out wa HBa.out
            obtain ⟨d1, d2, d3, d4⟩ := HCy.out wa HBa.out
            go_wp2_with fail
            go_big_quiet (fail)
            have HWb : Hid (Below wr.heap.size wr (wa.drewN nq)) := below_step HWa.out (below_drewN (Below.refl wa.heap.size wa) nq)
            have HBb : Hid (Below W0.heap.size W0 (wa.drewN nq)) := below_step HBa.out (below_drewN (Below.refl wa.heap.size wa) nq)
            generalize wa.drewN nq = wb at *
            clear b0 b1 b2 b3 d1 d2 d3 d4
            have HI2 : Hid (RowRV wb W0.heap.size u6 ((R.take (i + 1)).filter fun y => !sameV X y) ∧ Below W0.heap.size W0 wb) := ⟨by rw [HS.out]; exact row_on HI.out.1 HWb.out, HBb.out⟩
            go_wp2_with fail
            go_roundg (L - (i + 1))
            case measure => omega
            case rel => exact ⟨i + 1, by rw [show (i : Int) + 1 = ((i + 1 : Nat) : Int) by omega], by omega, Nat.le_refl _, HJ2, HI2⟩
          · have hg1 : decide (cm < yc) = true := decide_eq_true hq
            have hl : lateR X ⟨yk, yc, yt, yg⟩ = true := by unfold lateR; rw [HXk.out.2, HXk.out.1, eqk_self, hg1]; rfl
            have hany := HLy.out hl
            clear hl HLy HAn HFs
            go_wp2_with fail
            go_big_quiet (fail)
            have HBa : Hid (Below W0.heap.size W0 (wr.drewN nq)) := below_step HIb.out (below_drewN (Below.refl wr.heap.size wr) nq)
            generalize wr.drewN nq = wa at *
            clear b0 b1 b2 b3 d1 d2 d3 d4
            have HF : Hid (P (.returned (.tuple #[.slice (some ⟨g, 0, none⟩) L c, .int .i64 1])) wa) := HP1.out wa hany (HBw.out wa HBa.out)
            go_wp2_with fail
            exact HF.out
        · have hne : (yk.toList == k.toList) = false := eqk_false hk
          have hl : lateR X ⟨yk, yc, yt, yg⟩ = false := by unfold lateR; rw [HXk.out.1, eqk_false hk]; rfl
          have hs : sameV X ⟨yk, yc, yt, yg⟩ = false := by unfold sameV; rw [HXk.out.1, eqk_false hk]; rfl
          have HJ2 : Hid ((R.take (i + 1)).any (lateR X) = false) := by show _ = _; rw [HAn.out, hl]
          clear hl HLy HAn
          have HS : Hid ((R.take (i + 1)).filter (fun y => !sameV X y) = (R.take i).filter (fun y => !sameV X y) ++ [⟨yk, yc, yt, yg⟩]) := by show _ = _; rw [HFs.out]; simp [hs]
          clear hs HFs
          have HIo : Hid (∀ V, Below wr.heap.size wr V → RowRV V W0.heap.size u6 ((R.take i).filter fun y => !sameV X y)) := fun V hV => row_on HI.out.1 hV
          go_wp2_with fail
          go_big_quiet (fail)
          have HWa : Hid (Below wr.heap.size wr (wr.drewN nq)) := below_drewN (Below.refl wr.heap.size wr) nq
          have HBa : Hid (Below W0.heap.size W0 (wr.drewN nq)) := below_step HIb.out (below_drewN (Below.refl wr.heap.size wr) nq)
          generalize wr.drewN nq = wa at *
          clear b0 b1 b2 b3 d1 d2 d3 d4
          obtain ⟨b0, b1, b2, b3⟩ := HBx.out wa HBa.out
          obtain ⟨d1, d2, d3, d4⟩ := HCy.out wa HBa.out
          go_wp2_with fail
          go_big_quiet (fail)
          have HWb : Hid (Below wr.heap.size wr (wa.drewN nq)) := below_step HWa.out (below_drewN (Below.refl wa.heap.size wa) nq)
          have HBb : Hid (Below W0.heap.size W0 (wa.drewN nq)) := below_step HBa.out (below_drewN (Below.refl wa.heap.size wa) nq)
          generalize wa.drewN nq = wb at *
          clear b0 b1 b2 b3 d1 d2 d3 d4
          obtain ⟨d1, d2, d3, d4⟩ := HCy.out wb HBb.out
          obtain ⟨v3, W3, hr3, ho3, hb3⟩ := rv_more (⟨yk, yc, yt, yg⟩ : RV) HI.out.1 HI.out.2 HWb.out (HLe.out i)
          have HI3 : Hid (RowRV W3 W0.heap.size v3 ((R.take (i + 1)).filter fun y => !sameV X y) ∧ Below W0.heap.size W0 W3) := ⟨by rw [HS.out]; exact ho3, hb3⟩
          clear ho3 hb3
          go_wp2_with (first | (refine wpList_exec rfl (exec_append rfl rfl rfl hr3) ?_; clear hr3) | fail)
          go_roundg (L - (i + 1))
          case measure => omega
          case rel => exact ⟨i + 1, by rw [show (i : Int) + 1 = ((i + 1 : Nat) : Int) by omega], by omega, Nat.le_refl _, HJ2, HI3⟩
      · obtain rfl : i = L := by omega
        have hge : ¬ (i : Int) < (i : Int) := by omega
        have HJ2 : Hid (R.any (lateR X) = false) := by have h := HJ.out; rw [HEnd.out] at h; exact h
        have HRo : Hid (RowRV wr W0.heap.size u6 (R.filter fun y => !sameV X y)) := by have h := HI.out.1; rw [HEnd.out] at h; exact h
        have HLn : Hid ((R.filter fun y => !sameV X y).length ≤ 1000) := by have h := HLe.out i; rw [HEnd.out] at h; exact h
        obtain ⟨b0, b1, b2, b3⟩ := HBx.out wr HI.out.2
        obtain ⟨v3, W3, hr3, ho3, hb3⟩ := rv_more (⟨k, cm, ⟨#[]⟩, true⟩ : RV) HRo.out HI.out.2 (Below.refl _ _) HLn.out
        have HF : Hid (P (.returned (.tuple #[v3, .int .i64 0])) W3) := HP2.out W3 v3 HJ2.out (row_baseV ho3 HBase.out) (HBw.out W3 hb3)
        clear ho3 hb3 HX HAt HLate
        go_wp2_with (first | (refine wpList_exec rfl (exec_append rfl rfl rfl hr3) ?_; clear hr3) | fail)
        exact HF.out
  | false =>
    obtain ⟨W0, hW0⟩ : ∃ W0, W0 = w.alloc (.cells #[.string k, .int .i64 cm, .string tx, .bool false] 63) := ⟨_, rfl⟩
    have hnb := new_blk w (.cells #[.string k, .int .i64 cm, .string tx, .bool false] 63)
    have hal := below_alloc w (.cells #[.string k, .int .i64 cm, .string tx, .bool false] 63)
    have hW0b : W0.heap[w.heap.size]? = some (.cells #[.string k, .int .i64 cm, .string tx, .bool false] 63 (0, 0)) := by rw [hW0]; exact hnb
    have hBW : Below w.heap.size w W0 := by rw [hW0]; exact hal
    have hlt0 : w.heap.size < W0.heap.size := by rw [hW0]; simp [go_sem]
    obtain ⟨X, hX⟩ : ∃ X : RV, X = ⟨k, cm, tx, false⟩ := ⟨_, rfl⟩
    have HXk : Hid (X.k = k ∧ X.v.cm = cm) := by rw [hX]; exact ⟨rfl, rfl⟩
    have HP2' : Hid (∀ w' v', R.any (lateR X) = false → RowRV w' w.heap.size v' ((R.filter fun y => !sameV X y) ++ [⟨k, cm, tx, false⟩]) → Below w.heap.size w w' → P (.returned (.tuple #[v', .int .i64 0])) w') := by rw [hX]; exact HP2
    have HP1' : Hid (∀ w', R.any (lateR X) = true → Below w.heap.size w w' → P (.returned (.tuple #[.slice a L c, .int .i64 1])) w') := by rw [hX]; exact HP1
    have HLate' : Hid (∀ (i : Nat) y, R[i]? = some y → lateR X y = true → R.any (lateR X) = true) := by rw [hX]; exact HLate
    have HLe' : Hid (∀ i, ((R.take i).filter fun y => !sameV X y).length ≤ 1000) := by rw [hX]; exact HLe
    clear HP2 HP1 HLate HLe hX
    rename Hid (∀ w' v', _ → _ → _ → _) => HP2
    rename Hid (∀ w', R.any (lateR X) = true → _ → _) => HP1
    rename Hid (∀ (i : Nat) y, R[i]? = some y → lateR X y = true → R.any (lateR X) = true) => HLate
    rename Hid (∀ i, ((R.take i).filter fun y => !sameV X y).length ≤ 1000) => HLe
    have HBx : Hid (∀ V, Below W0.heap.size W0 V → V.cell? ⟨w.heap.size, 0, none⟩ = some (.string k) ∧ V.cell? ⟨w.heap.size, 1, none⟩ = some (.int .i64 cm) ∧ V.cell? ⟨w.heap.size, 2, none⟩ = some (.string tx) ∧ V.cell? ⟨w.heap.size, 3, none⟩ = some (.bool false)) := fun V hV => by
      have hb := (hV.block _ hlt0).trans hW0b
      exact ⟨cell_of hb rfl, cell_of hb rfl, cell_of hb rfl, cell_of hb rfl⟩
    have HBw : Hid (∀ V, Below W0.heap.size W0 V → Below w.heap.size w V) := fun V hV => below_step hBW hV
    have HB0 : Hid (RowRV W0 W0.heap.size (.slice none 0 0) ((R.take 0).filter fun y => !sameV X y) ∧ Below W0.heap.size W0 W0) := ⟨World.ownsRow_nil _ _ _ _, Below.refl _ _⟩
    have HBase : Hid (w.heap.size ≤ W0.heap.size) := Nat.le_of_lt hlt0
    have hlow : ¬ cm < 1 := by omega
    have hlow' := decide_eq_false hlow
    clear hnb hal hW0b hBW hlt0
    go_enter Tryz.func20, Tryz.ntmps20
    go_upto_region 5 with fail
    rw [← hW0]
    clear hW0
    generalize hn : w.heap.size = n at *
    have HNn := Lib.hid hn
    clear hn
    go_wp2_with fail
    go_loopg [6, 7] L (fun kx v6 v7 wr => ∃ i : Nat, v7 = .int .i64 i ∧ i ≤ L ∧ L - i ≤ kx ∧ Hid ((R.take i).any (lateR X) = false) ∧ Hid (RowRV wr W0.heap.size v6 ((R.take i).filter fun y => !sameV X y) ∧ Below W0.heap.size W0 wr))
    case atStart => exact ⟨0, rfl, Nat.zero_le _, by omega, rfl, HB0⟩
    case round =>
      clear HB0
      obtain ⟨i, rfl, hi, hkx, HJ, HI⟩ := hrel
      by_cases hlt : i < L
      · obtain ⟨y, hy⟩ := HX.out i hlt
        obtain ⟨g, rfl, hc⟩ := HAt.out i y hy
        have hw1 := wraps_i64 ((i : Int) + 1) (by omega) (by omega)
        have hlt' : (i : Int) < (L : Int) := by omega
        have hiL := decide_eq_true hlt
        have HIb : Hid (Below W0.heap.size W0 wr) := HI.out.2
        have hc' : ∀ V, Below W0.heap.size W0 V → _ := fun V hV => hc V (by have := HBw.out V hV; rw [HNn.out] at *; exact this)
        obtain ⟨b0, b1, b2, b3⟩ := HBx.out wr HIb.out
        obtain ⟨d1, d2, d3, d4⟩ := hc' wr HIb.out
        have HLy := Lib.hid (HLate.out i y hy)
        have HFs : Hid (∀ f : RV → Bool, (R.take (i + 1)).filter f = (R.take i).filter f ++ [y].filter f) := fun f => by rw [take_snoc hy, List.filter_append]
        have HAn : Hid ((R.take (i + 1)).any (lateR X) = lateR X y) := by show _ = _; rw [take_snoc hy, List.any_append, HJ.out]; simp
        have HCy := Lib.hid hc'
        clear hy hc hc' HX HAt HLate
        obtain ⟨yk, yc, yt, yg⟩ := y
        dsimp only at d1 d2 d3 d4 HCy
        by_cases hk : yk = k
        · subst hk
          rcases Int.lt_trichotomy yc cm with hq | hq | hq
          · have hg1 : decide (cm < yc) = false := decide_eq_false (by omega)
            have hg2 : (yc == cm) = false := beq_false_of_ne (by omega)
            have hl : lateR X ⟨yk, yc, yt, yg⟩ = false := by unfold lateR; rw [HXk.out.2]; simp [hg1]
            have hs : sameV X ⟨yk, yc, yt, yg⟩ = false := by unfold sameV; rw [HXk.out.2]; simp [hg2]
            have HJ2 : Hid ((R.take (i + 1)).any (lateR X) = false) := by show _ = _; rw [HAn.out, hl]
            clear hl HLy HAn
            have HS : Hid ((R.take (i + 1)).filter (fun y => !sameV X y) = (R.take i).filter (fun y => !sameV X y) ++ [⟨yk, yc, yt, yg⟩]) := by show _ = _; rw [HFs.out]; simp [hs]
            clear hs HFs
            have HIo : Hid (∀ V, Below wr.heap.size wr V → RowRV V W0.heap.size u6 ((R.take i).filter fun y => !sameV X y)) := fun V hV => row_on HI.out.1 hV
            go_wp2_with fail
            go_big_quiet (fail)
            have HWa : Hid (Below wr.heap.size wr (wr.drewN nq)) := below_drewN (Below.refl wr.heap.size wr) nq
            have HBa : Hid (Below W0.heap.size W0 (wr.drewN nq)) := below_step HIb.out (below_drewN (Below.refl wr.heap.size wr) nq)
            generalize wr.drewN nq = wa at *
            clear b0 b1 b2 b3 d1 d2 d3 d4
            obtain ⟨b0, b1, b2, b3⟩ := HBx.out wa HBa.out
            obtain ⟨d1, d2, d3, d4⟩ := HCy.out wa HBa.out
            go_wp2_with fail
            go_big_quiet (fail)
            have HWb : Hid (Below wr.heap.size wr (wa.drewN nq)) := below_step HWa.out (below_drewN (Below.refl wa.heap.size wa) nq)
            have HBb : Hid (Below W0.heap.size W0 (wa.drewN nq)) := below_step HBa.out (below_drewN (Below.refl wa.heap.size wa) nq)
            generalize wa.drewN nq = wb at *
            clear b0 b1 b2 b3 d1 d2 d3 d4
            obtain ⟨d1, d2, d3, d4⟩ := HCy.out wb HBb.out
            obtain ⟨v3, W3, hr3, ho3, hb3⟩ := rv_more (⟨yk, yc, yt, yg⟩ : RV) HI.out.1 HI.out.2 HWb.out (HLe.out i)
            have HI3 : Hid (RowRV W3 W0.heap.size v3 ((R.take (i + 1)).filter fun y => !sameV X y) ∧ Below W0.heap.size W0 W3) := ⟨by rw [HS.out]; exact ho3, hb3⟩
            clear ho3 hb3
            go_wp2_with (first | (refine wpList_exec rfl (exec_append rfl rfl rfl hr3) ?_; clear hr3) | fail)
            go_roundg (L - (i + 1))
            case measure => omega
            case rel => exact ⟨i + 1, by rw [show (i : Int) + 1 = ((i + 1 : Nat) : Int) by omega], by omega, Nat.le_refl _, HJ2, HI3⟩
          · subst hq
            have hg1 : decide (yc < yc) = false := decide_eq_false (by omega)
            have hg2 : (yc == yc) = true := by simp
            have hl : lateR X ⟨yk, yc, yt, yg⟩ = false := by unfold lateR; rw [HXk.out.2]; simp
            have hs : sameV X ⟨yk, yc, yt, yg⟩ = true := by unfold sameV; rw [HXk.out.2, HXk.out.1, eqk_self]; simp
            have HJ2 : Hid ((R.take (i + 1)).any (lateR X) = false) := by show _ = _; rw [HAn.out, hl]
            clear hl HLy HAn
            have HS : Hid ((R.take (i + 1)).filter (fun y => !sameV X y) = (R.take i).filter (fun y => !sameV X y)) := by show _ = _; rw [HFs.out]; simp [hs]
            clear hs HFs
            go_wp2_with fail
            go_big_quiet (fail)
            have HWa : Hid (Below wr.heap.size wr (wr.drewN nq)) := below_drewN (Below.refl wr.heap.size wr) nq
            have HBa : Hid (Below W0.heap.size W0 (wr.drewN nq)) := below_step HIb.out (below_drewN (Below.refl wr.heap.size wr) nq)
            generalize wr.drewN nq = wa at *
            clear b0 b1 b2 b3 d1 d2 d3 d4
            obtain ⟨b0, b1, b2, b3⟩ := HBx.out wa HBa.out
            obtain ⟨d1, d2, d3, d4⟩ := HCy.out wa HBa.out
            go_wp2_with fail
            go_big_quiet (fail)
            have HWb : Hid (Below wr.heap.size wr (wa.drewN nq)) := below_step HWa.out (below_drewN (Below.refl wa.heap.size wa) nq)
            have HBb : Hid (Below W0.heap.size W0 (wa.drewN nq)) := below_step HBa.out (below_drewN (Below.refl wa.heap.size wa) nq)
            generalize wa.drewN nq = wb at *
            clear b0 b1 b2 b3 d1 d2 d3 d4
            have HI2 : Hid (RowRV wb W0.heap.size u6 ((R.take (i + 1)).filter fun y => !sameV X y) ∧ Below W0.heap.size W0 wb) := ⟨by rw [HS.out]; exact row_on HI.out.1 HWb.out, HBb.out⟩
            go_wp2_with fail
            go_roundg (L - (i + 1))
            case measure => omega
            case rel => exact ⟨i + 1, by rw [show (i : Int) + 1 = ((i + 1 : Nat) : Int) by omega], by omega, Nat.le_refl _, HJ2, HI2⟩
          · have hg1 : decide (cm < yc) = true := decide_eq_true hq
            have hl : lateR X ⟨yk, yc, yt, yg⟩ = true := by unfold lateR; rw [HXk.out.2, HXk.out.1, eqk_self, hg1]; rfl
            have hany := HLy.out hl
            clear hl HLy HAn HFs
            go_wp2_with fail
            go_big_quiet (fail)
            have HBa : Hid (Below W0.heap.size W0 (wr.drewN nq)) := below_step HIb.out (below_drewN (Below.refl wr.heap.size wr) nq)
            generalize wr.drewN nq = wa at *
            clear b0 b1 b2 b3 d1 d2 d3 d4
            have HF : Hid (P (.returned (.tuple #[.slice (some ⟨g, 0, none⟩) L c, .int .i64 1])) wa) := HP1.out wa hany (HBw.out wa HBa.out)
            go_wp2_with fail
            exact HF.out
        · have hne : (yk.toList == k.toList) = false := eqk_false hk
          have hl : lateR X ⟨yk, yc, yt, yg⟩ = false := by unfold lateR; rw [HXk.out.1, eqk_false hk]; rfl
          have hs : sameV X ⟨yk, yc, yt, yg⟩ = false := by unfold sameV; rw [HXk.out.1, eqk_false hk]; rfl
          have HJ2 : Hid ((R.take (i + 1)).any (lateR X) = false) := by show _ = _; rw [HAn.out, hl]
          clear hl HLy HAn
          have HS : Hid ((R.take (i + 1)).filter (fun y => !sameV X y) = (R.take i).filter (fun y => !sameV X y) ++ [⟨yk, yc, yt, yg⟩]) := by show _ = _; rw [HFs.out]; simp [hs]
          clear hs HFs
          have HIo : Hid (∀ V, Below wr.heap.size wr V → RowRV V W0.heap.size u6 ((R.take i).filter fun y => !sameV X y)) := fun V hV => row_on HI.out.1 hV
          go_wp2_with fail
          go_big_quiet (fail)
          have HWa : Hid (Below wr.heap.size wr (wr.drewN nq)) := below_drewN (Below.refl wr.heap.size wr) nq
          have HBa : Hid (Below W0.heap.size W0 (wr.drewN nq)) := below_step HIb.out (below_drewN (Below.refl wr.heap.size wr) nq)
          generalize wr.drewN nq = wa at *
          clear b0 b1 b2 b3 d1 d2 d3 d4
          obtain ⟨b0, b1, b2, b3⟩ := HBx.out wa HBa.out
          obtain ⟨d1, d2, d3, d4⟩ := HCy.out wa HBa.out
          go_wp2_with fail
          go_big_quiet (fail)
          have HWb : Hid (Below wr.heap.size wr (wa.drewN nq)) := below_step HWa.out (below_drewN (Below.refl wa.heap.size wa) nq)
          have HBb : Hid (Below W0.heap.size W0 (wa.drewN nq)) := below_step HBa.out (below_drewN (Below.refl wa.heap.size wa) nq)
          generalize wa.drewN nq = wb at *
          clear b0 b1 b2 b3 d1 d2 d3 d4
          obtain ⟨d1, d2, d3, d4⟩ := HCy.out wb HBb.out
          obtain ⟨v3, W3, hr3, ho3, hb3⟩ := rv_more (⟨yk, yc, yt, yg⟩ : RV) HI.out.1 HI.out.2 HWb.out (HLe.out i)
          have HI3 : Hid (RowRV W3 W0.heap.size v3 ((R.take (i + 1)).filter fun y => !sameV X y) ∧ Below W0.heap.size W0 W3) := ⟨by rw [HS.out]; exact ho3, hb3⟩
          clear ho3 hb3
          go_wp2_with (first | (refine wpList_exec rfl (exec_append rfl rfl rfl hr3) ?_; clear hr3) | fail)
          go_roundg (L - (i + 1))
          case measure => omega
          case rel => exact ⟨i + 1, by rw [show (i : Int) + 1 = ((i + 1 : Nat) : Int) by omega], by omega, Nat.le_refl _, HJ2, HI3⟩
      · obtain rfl : i = L := by omega
        have hge : ¬ (i : Int) < (i : Int) := by omega
        have HJ2 : Hid (R.any (lateR X) = false) := by have h := HJ.out; rw [HEnd.out] at h; exact h
        have HRo : Hid (RowRV wr W0.heap.size u6 (R.filter fun y => !sameV X y)) := by have h := HI.out.1; rw [HEnd.out] at h; exact h
        have HLn : Hid ((R.filter fun y => !sameV X y).length ≤ 1000) := by have h := HLe.out i; rw [HEnd.out] at h; exact h
        obtain ⟨b0, b1, b2, b3⟩ := HBx.out wr HI.out.2
        obtain ⟨v3, W3, hr3, ho3, hb3⟩ := rv_more (⟨k, cm, tx, false⟩ : RV) HRo.out HI.out.2 (Below.refl _ _) HLn.out
        have HF : Hid (P (.returned (.tuple #[v3, .int .i64 0])) W3) := HP2.out W3 v3 HJ2.out (row_baseV ho3 HBase.out) (HBw.out W3 hb3)
        clear ho3 hb3 HX HAt HLate
        go_wp2_with (first | (refine wpList_exec rfl (exec_append rfl rfl rfl hr3) ?_; clear hr3) | fail)
        exact HF.out
end Go.Proofs.YtagamkahfiackaaGreatDoor
