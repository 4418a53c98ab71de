/- The document's Prune. -/
import Derived.Test.YtagamkahfiackaaGreatDoorVnRPut
namespace Go.Proofs.YtagamkahfiackaaGreatDoor
open Go.RowKit Go.Sort

attribute [local go_sem] Oper.semAt_some
def allP (y : RV) (z : RV) : Bool := !(eqk z.k y.k) || decide (z.v.cm ≤ y.v.cm)
theorem all_any (R : List RV) (y : RV) : R.all (allP y) = !((verR y.k R).any fun v => decide (y.v.cm < v.cm)) := by
  rw [Bool.eq_iff_iff]
  simp only [List.all_eq_true, Bool.not_eq_true', List.any_eq_false, decide_eq_true_eq]
  constructor
  · intro h v hv
    obtain ⟨x, hx, hk, rfl⟩ := mem_ver.1 hv
    have := h x hx
    unfold allP at this
    rw [eqk_iff.2 hk] at this
    simp at this
    omega
  · intro h x hx
    unfold allP
    cases e : eqk x.k y.k with
    | false => rfl
    | true =>
      have := h x.v (mem_ver.2 ⟨x, hx, eqk_iff.1 e, rfl⟩)
      simp; omega
theorem keep_none {c : List PV} {t : Int} (h : asC c t = none) (x : PV) : keepC c t x = true := by unfold keepC; rw [h]
theorem keep_other {c : List PV} {t : Int} {v x : PV} (h : asC c t = some v) (hne : ¬ (x.cm = v.cm ∧ x.gn = true)) : keepC c t x = decide (v.cm ≤ x.cm) := by unfold keepC; rw [h]; dsimp only; rw [if_neg hne]
theorem keep_self {c : List PV} {t : Int} {v x : PV} (h : asC c t = some v) (he : x.cm = v.cm ∧ x.gn = true) : keepC c t x = c.any fun y => decide (x.cm < y.cm) := by unfold keepC; rw [h]; dsimp only; rw [if_pos he]
theorem prune_snoc {R : List RV} {t : Int} {i : Nat} {y : RV} (hy : R[i]? = some y) : (R.take (i + 1)).filter (fun x => keepC (verR x.k R) t x.v) = (R.take i).filter (fun x => keepC (verR x.k R) t x.v) ++ (if keepC (verR y.k R) t y.v = true then [y] else []) := by
  rw [take_snoc hy, List.filter_append]
  congr 1
  by_cases q : keepC (verR y.k R) t y.v = true
  · rw [if_pos q]; simp [q]
  · rw [if_neg q]; simp [q]
set_option maxRecDepth 100000 in
set_option maxHeartbeats 8000000 in
theorem rprune_ {w : World} {B : Nat} {v : Value} {R : List RV} (hr : RowRV w B v R) (hl : R.length ≤ 900) (ha : ∀ k, AscC (verR k R)) (t : Int) : Calls Tryz.prog 18 #[v, .int .i64 t] w fun e w' =>
    ∃ v', e = .returned (.tuple #[v', .int .i64 ((R.length : Int) - (pruneR R t).length)]) ∧ RowRV w' w.heap.size v' (pruneR R t) ∧ Below w.heap.size w w' := by
  have HAs : Hid (∀ V k, Below w.heap.size w V → Calls Tryz.prog 26 #[v, .string k, .int .i64 t] V fun e w' => e = .returned (ixV (lixN (asP k t) R R.length)) ∧ Below V.heap.size V w') := fun V k hV => ras_ (row_on hr hV : RowRV V B v R) (by omega) k (ha k) t
  obtain ⟨P, hP⟩ : ∃ P : Ending → World → Prop, P = fun e w' => ∃ v', e = .returned (.tuple #[v', .int .i64 ((R.length : Int) - (pruneR R t).length)]) ∧ RowRV w' w.heap.size v' (pruneR R t) ∧ Below w.heap.size w w' := ⟨_, rfl⟩
  have HP : Hid (∀ w' v', RowRV w' w.heap.size v' (pruneR R t) → Below w.heap.size w w' → P (.returned (.tuple #[v', .int .i64 ((R.length : Int) - (pruneR R t).length)])) w') := fun w' v' h1 h2 => by rw [hP]; exact ⟨v', rfl, h1, h2⟩
  rw [← hP]
  clear hP
  obtain ⟨a, c, rfl, hat⟩ := hr.items
  have HAt := Lib.hid hat
  have HX : Hid (∀ i, i < R.length → ∃ x, R[i]? = some x) := fun i hi => ⟨_, List.getElem?_eq_getElem hi⟩
  have HEnd : Hid ((R.take R.length).filter (fun x => keepC (verR x.k R) t x.v) = pruneR R t) := by show _ = _; rw [List.take_length]; rfl
  have HAll : Hid (∀ y, (R.take R.length).all (allP y) = !((verR y.k R).any fun v => decide (y.v.cm < v.cm))) := fun y => by rw [List.take_length]; exact all_any R y
  have HLe : Hid (∀ i, ((R.take i).filter fun x => keepC (verR x.k R) t x.v).length ≤ 1000) := fun i => Nat.le_trans (List.length_filter_le _ _) (by rw [List.length_take]; omega)
  have HPl : Hid ((pruneR R t).length ≤ R.length) := List.length_filter_le _ _
  have HAsc : Hid (∀ (i j : Nat) (x y : RV), i < j → R[i]? = some x → R[j]? = some y → x.k = y.k → x.v.cm < y.v.cm) := fun i j x y hij hx hy hk => asc_ix (ha y.k) hij hx hy hk rfl
  have HLk : Hid (∀ k, asC (verR k R) t = ((lixN (asP k t) R R.length).bind fun j => R[j]?).map (·.v)) := fun k => as_link k t R
  clear hr hat ha
  have HB0 : Hid (RowRV w w.heap.size (.slice none 0 0) ((R.take 0).filter fun x => keepC (verR x.k R) t x.v) ∧ Below w.heap.size w w) := ⟨World.ownsRow_nil _ _ _ _, Below.refl _ _⟩
  generalize hL : R.length = L at *
  go_enter Tryz.func18, Tryz.ntmps18
  go_wp2_with fail
  go_loopg [6, 7] L (fun kx v6 v7 wr => ∃ i : Nat, v7 = .int .i64 i ∧ i ≤ L ∧ L - i ≤ kx ∧ Hid (RowRV wr w.heap.size v6 ((R.take i).filter fun x => keepC (verR x.k R) t x.v) ∧ Below w.heap.size w wr))
  case atStart => exact ⟨0, rfl, Nat.zero_le _, by omega, HB0⟩
  case round =>
    clear HB0
    obtain ⟨i, rfl, hi, hkx, HI⟩ := hrel
    by_cases hlt : i < L
    · obtain ⟨y, hy⟩ := HX.out i hlt
      obtain ⟨g, rfl, hc⟩ := HAt.out i y hy
      have hw1 := wraps_i64 ((i : Int) + 1) (by omega) (by omega)
      have hlt' : (i : Int) < (L : Int) := by omega
      have hiL := decide_eq_true hlt
      obtain ⟨d1, d2, d3, d4⟩ := hc wr HI.out.2
      have HCy := Lib.hid hc
      have HAy := Lib.hid (HAs.out wr y.k HI.out.2)
      have hlk := HLk.out y.k
      have hsn := prune_snoc (t := t) hy
      have HY := Lib.hid hy
      clear hc HAs HLk hy
      obtain ⟨yk, yv, hyv⟩ : ∃ yk yv, y = ⟨yk, yv⟩ := ⟨y.k, y.v, rfl⟩
      subst hyv
      dsimp only at d1 d2 d3 d4 HCy HAy hlk hsn
      cases ho : lixN (asP yk t) R L with
      | none =>
        rw [ho] at HAy hlk
        have hkp : keepC (verR yk R) t yv = true := keep_none (by rw [hlk]; rfl) yv
        unfold ixV at HAy
        dsimp only at HAy
        have hne : ((-1 : Int) == (i : Int)) = false := beq_false_of_ne (by omega)
        clear d1 d2 d3 d4
        have d1 := (HCy.out wr HI.out.2).1
        go_wp2_with (first
          | (go_at_call 26; refine HAy.out.mono ?_; rintro e w1 ⟨rfl, hb⟩
             have HW1 := Lib.hid hb
             have HB1 : Hid (Below w.heap.size w w1) := below_step HI.out.2 hb
             clear d1 hb)
          | fail)
        obtain ⟨d1, d2, d3, d4⟩ := HCy.out w1 HB1.out
        go_big_quiet (fail)
        have HWa : Hid (Below wr.heap.size wr (w1.drewN nq)) := below_step HW1.out (below_drewN (Below.refl w1.heap.size w1) nq)
        have HBa : Hid (Below w.heap.size w (w1.drewN nq)) := below_step HB1.out (below_drewN (Below.refl w1.heap.size w1) nq)
        generalize w1.drewN nq = wa at *
        clear d1 d2 d3 d4 
        obtain ⟨d1, d2, d3, d4⟩ := HCy.out wa HBa.out

        have HS : Hid ((R.take (i + 1)).filter (fun x => keepC (verR x.k R) t x.v) = (R.take i).filter (fun x => keepC (verR x.k R) t x.v) ++ [⟨yk, yv⟩]) := by show _ = _; rw [hsn, if_pos hkp]
        obtain ⟨v3, W3, hr3, ho3, hb3⟩ := rv_more (W0 := w) (⟨yk, yv⟩ : RV) HI.out.1 HI.out.2 HWa.out (HLe.out i)
        have HI3 : Hid (RowRV W3 w.heap.size v3 ((R.take (i + 1)).filter fun x => keepC (verR x.k R) t x.v) ∧ Below w.heap.size w W3) := ⟨by rw [HS.out]; exact ho3, hb3⟩
        dsimp only at hr3
        clear ho3 hb3 hsn hkp
        go_wp2_with (first | (refine wpList_exec rfl (exec_append rfl rfl rfl hr3) ?_; clear hr3) | fail)
        go_roundg (L - (i + 1))
        case measure => omega
        case rel => exact ⟨i + 1, by rw [show (i : Int) + 1 = ((i + 1 : Nat) : Int) by omega], by omega, Nat.le_refl _, HI3⟩
      | some j =>
        rw [ho] at HAy hlk
        obtain ⟨hj, z, hz, hzp⟩ := lix_spec ho
        simp only [asP, Bool.and_eq_true, decide_eq_true_eq] at hzp
        have hzk := eqk_iff.1 hzp.1
        have hlk2 : asC (verR yk R) t = some z.v := by rw [hlk]; simp [hz]
        unfold ixV at HAy
        dsimp only at HAy
        have hjL' := decide_eq_true hj
        have hjn : decide ((j : Int) < 0) = false := decide_eq_false (by omega)
        by_cases hji : j = i
        · subst hji
          have ezy : z = ⟨yk, yv⟩ := by have := HY.out; rw [hz] at this; cases this; rfl
          subst ezy
          have hself : ((j : Int) == (j : Int)) = true := by simp
          have hle : decide (yv.cm ≤ yv.cm) = true := decide_eq_true (Int.le_refl _)
          cases hgn : yv.gn with
          | false =>
            have hkp : keepC (verR yk R) t yv = true := by rw [keep_other hlk2 (by rw [hgn]; simp)]; exact hle
            rw [hgn] at d4
            clear d1 d2 d3 d4
            have d1 := (HCy.out wr HI.out.2).1
            go_wp2_with (first
              | (go_at_call 26; refine HAy.out.mono ?_; rintro e w1 ⟨rfl, hb⟩
                 have HW1 := Lib.hid hb
                 have HB1 : Hid (Below w.heap.size w w1) := below_step HI.out.2 hb
                 clear d1 hb)
              | fail)
            obtain ⟨d1, d2, d3, d4⟩ := HCy.out w1 HB1.out
            rw [hgn] at d4
            go_big_quiet (fail)
            have HWa : Hid (Below wr.heap.size wr (w1.drewN nq)) := below_step HW1.out (below_drewN (Below.refl w1.heap.size w1) nq)
            have HBa : Hid (Below w.heap.size w (w1.drewN nq)) := below_step HB1.out (below_drewN (Below.refl w1.heap.size w1) nq)
            generalize w1.drewN nq = wa at *
            clear d1 d2 d3 d4 
            obtain ⟨d1, d2, d3, d4⟩ := HCy.out wa HBa.out
            rw [hgn] at d4

            have HS : Hid ((R.take (j + 1)).filter (fun x => keepC (verR x.k R) t x.v) = (R.take j).filter (fun x => keepC (verR x.k R) t x.v) ++ [⟨yk, yv⟩]) := by show _ = _; rw [hsn, if_pos hkp]
            obtain ⟨v3, W3, hr3, ho3, hb3⟩ := rv_more (W0 := w) (⟨yk, yv⟩ : RV) HI.out.1 HI.out.2 HWa.out (HLe.out j)
            have HI3 : Hid (RowRV W3 w.heap.size v3 ((R.take (j + 1)).filter fun x => keepC (verR x.k R) t x.v) ∧ Below w.heap.size w W3) := ⟨by rw [HS.out]; exact ho3, hb3⟩
            dsimp only at hr3
            rw [hgn] at hr3
            clear ho3 hb3 hsn hkp
            go_wp2_with (first | (refine wpList_exec rfl (exec_append rfl rfl rfl hr3) ?_; clear hr3) | fail)
            go_roundg (L - (j + 1))
            case measure => omega
            case rel => exact ⟨j + 1, by rw [show (j : Int) + 1 = ((j + 1 : Nat) : Int) by omega], by omega, Nat.le_refl _, HI3⟩
          | true =>
            have hkp : keepC (verR yk R) t yv = (verR yk R).any fun u => decide (yv.cm < u.cm) := keep_self hlk2 ⟨rfl, hgn⟩
            rw [hgn] at d4
            clear d1 d2 d3 d4
            have d1 := (HCy.out wr HI.out.2).1
            go_wp2_with (first
              | (go_at_call 26; refine HAy.out.mono ?_; rintro e w1 ⟨rfl, hb⟩
                 have HW1 := Lib.hid hb
                 have HB1 : Hid (Below w.heap.size w w1) := below_step HI.out.2 hb
                 clear d1 hb)
              | fail)
            obtain ⟨d1, d2, d3, d4⟩ := HCy.out w1 HB1.out
            rw [hgn] at d4
            go_big_quiet (fail)
            have HWa : Hid (Below wr.heap.size wr (w1.drewN nq)) := below_step HW1.out (below_drewN (Below.refl w1.heap.size w1) nq)
            have HBa : Hid (Below w.heap.size w (w1.drewN nq)) := below_step HB1.out (below_drewN (Below.refl w1.heap.size w1) nq)
            generalize w1.drewN nq = wa at *
            clear d1 d2 d3 d4 
            obtain ⟨d1, d2, d3, d4⟩ := HCy.out wa HBa.out
            rw [hgn] at d4

            have HAy2 := HAll.out ⟨yk, yv⟩
            dsimp only at HAy2
            obtain ⟨wo, hwo⟩ : ∃ wo, wo = wr := ⟨_, rfl⟩
            rw [← hwo] at HI HW1 HWa
            clear hwo HAy HW1 HB1
            go_wp2_with fail
            clear d1 d2 d3 d4
            go_loopg [10, 11] L (fun kx v10 v11 wn => ∃ (n : Nat) (la : Bool), v11 = .int .i64 n ∧ n ≤ L ∧ L - n ≤ kx ∧ v10 = .bool la ∧ Hid (la = (R.take n).all (allP ⟨yk, yv⟩)) ∧ Hid (Below wo.heap.size wo wn) ∧ Hid (Below w.heap.size w wn))
            case atStart => exact ⟨0, true, rfl, Nat.zero_le _, by omega, rfl, rfl, HWa, HBa⟩
            case round =>
              obtain ⟨wn, hwn⟩ : ∃ wn, wn = wr := ⟨_, rfl⟩
              rw [← hwn] at hrel ⊢
              clear hwn
              obtain ⟨n, la, rfl, hn, hkn, rfl, HN, HWn, HBn⟩ := hrel
              by_cases hnl : n < L
              · obtain ⟨z2, hz2⟩ := HX.out n hnl
                obtain ⟨g3, eg3, hc3⟩ := HAt.out n z2 hz2
                cases eg3
                obtain ⟨d1, d2, d3, d4⟩ := HCy.out wn HBn.out
                obtain ⟨f1, f2, f3, f4⟩ := hc3 wn HBn.out
                have hw2 := wraps_i64 ((n : Int) + 1) (by omega) (by omega)
                have hnl' : (n : Int) < (L : Int) := by omega
                have hnL := decide_eq_true hnl
                have hAs : (R.take (n + 1)).all (allP ⟨yk, yv⟩) = (la && allP ⟨yk, yv⟩ z2) := by rw [take_snoc hz2, List.all_append, ← HN.out]; simp
                have HAs2 := Lib.hid hAs
                clear hAs hz2 hc3 HX HAt HAll
                obtain ⟨zk, zv⟩ := z2
                dsimp only at f1 f2 f3 f4
                cases la with
                | false =>
                  have HN2 : Hid (false = (R.take (n + 1)).all (allP ⟨yk, yv⟩)) := by show _ = _; rw [HAs2.out]; rfl
                  clear HAs2 HN
                  go_wp2_with fail
                  go_big_quiet (fail)
                  have HBq : Hid (Below w.heap.size w (wn.drewN nq)) := below_step HBn.out (below_drewN (Below.refl wn.heap.size wn) nq)
                  have HWq : Hid (Below wo.heap.size wo (wn.drewN nq)) := below_step HWn.out (below_drewN (Below.refl wn.heap.size wn) nq)
                  generalize wn.drewN nq = wq at *
                  clear d1 d2 d3 d4
                  go_wp2_with fail
                  go_roundg (L - (n + 1))
                  case measure => omega
                  case rel => exact ⟨n + 1, _, by rw [show (n : Int) + 1 = ((n + 1 : Nat) : Int) by omega], by omega, Nat.le_refl _, rfl, HN2, HWq, HBq⟩
                | true =>
                  by_cases hk2 : zk = yk
                  · subst hk2
                    by_cases hc4 : zv.cm ≤ yv.cm
                    · have hc5 := decide_eq_true hc4
                      have HN2 : Hid (true = (R.take (n + 1)).all (allP ⟨zk, yv⟩)) := by show _ = _; rw [HAs2.out]; unfold allP; dsimp only; rw [hc5]; simp
                      clear HAs2 HN
                      go_wp2_with fail
                      go_big_quiet (fail)
                      have HBq : Hid (Below w.heap.size w (wn.drewN nq)) := below_step HBn.out (below_drewN (Below.refl wn.heap.size wn) nq)
                      have HWq : Hid (Below wo.heap.size wo (wn.drewN nq)) := below_step HWn.out (below_drewN (Below.refl wn.heap.size wn) nq)
                      generalize wn.drewN nq = wq at *
                      clear d1 d2 d3 d4
                      go_wp2_with fail
                      go_roundg (L - (n + 1))
                      case measure => omega
                      case rel => exact ⟨n + 1, _, by rw [show (n : Int) + 1 = ((n + 1 : Nat) : Int) by omega], by omega, Nat.le_refl _, rfl, HN2, HWq, HBq⟩
                    · have hc5 := decide_eq_false hc4
                      have HN2 : Hid (false = (R.take (n + 1)).all (allP ⟨zk, yv⟩)) := by show _ = _; rw [HAs2.out]; unfold allP; dsimp only; rw [hc5, eqk_self]; rfl
                      clear HAs2 HN
                      go_wp2_with fail
                      go_big_quiet (fail)
                      have HBq : Hid (Below w.heap.size w (wn.drewN nq)) := below_step HBn.out (below_drewN (Below.refl wn.heap.size wn) nq)
                      have HWq : Hid (Below wo.heap.size wo (wn.drewN nq)) := below_step HWn.out (below_drewN (Below.refl wn.heap.size wn) nq)
                      generalize wn.drewN nq = wq at *
                      clear d1 d2 d3 d4
                      go_wp2_with fail
                      go_roundg (L - (n + 1))
                      case measure => omega
                      case rel => exact ⟨n + 1, _, by rw [show (n : Int) + 1 = ((n + 1 : Nat) : Int) by omega], by omega, Nat.le_refl _, rfl, HN2, HWq, HBq⟩
                  · have hne2 : (zk.toList == yk.toList) = false := eqk_false hk2
                    have HN2 : Hid (true = (R.take (n + 1)).all (allP ⟨yk, yv⟩)) := by show _ = _; rw [HAs2.out]; unfold allP; dsimp only; rw [eqk_false hk2]; rfl
                    clear HAs2 HN
                    go_wp2_with fail
                    go_big_quiet (fail)
                    have HBq : Hid (Below w.heap.size w (wn.drewN nq)) := below_step HBn.out (below_drewN (Below.refl wn.heap.size wn) nq)
                    have HWq : Hid (Below wo.heap.size wo (wn.drewN nq)) := below_step HWn.out (below_drewN (Below.refl wn.heap.size wn) nq)
                    generalize wn.drewN nq = wq at *
                    clear d1 d2 d3 d4
                    go_wp2_with fail
                    go_roundg (L - (n + 1))
                    case measure => omega
                    case rel => exact ⟨n + 1, _, by rw [show (n : Int) + 1 = ((n + 1 : Nat) : Int) by omega], by omega, Nat.le_refl _, rfl, HN2, HWq, HBq⟩
              · obtain rfl : n = L := by omega
                have hge : ¬ (n : Int) < (n : Int) := by omega
                have hla : la = !((verR yk R).any fun u => decide (yv.cm < u.cm)) := by rw [HN.out, HAy2]
                obtain ⟨d1, d2, d3, d4⟩ := HCy.out wn HBn.out
                rw [hgn] at d4
                clear HX HAt HAll HN HAy2
                cases la with
                | false =>
                  have hkp2 : keepC (verR yk R) t yv = true := by rw [hkp]; revert hla; cases (verR yk R).any _ <;> simp
                  clear hkp hla
                  rename keepC (verR yk R) t yv = true => hkp
                  have HS : Hid ((R.take (j + 1)).filter (fun x => keepC (verR x.k R) t x.v) = (R.take j).filter (fun x => keepC (verR x.k R) t x.v) ++ [⟨yk, yv⟩]) := by show _ = _; rw [hsn, if_pos hkp]
                  obtain ⟨v3, W3, hr3, ho3, hb3⟩ := rv_more (W0 := w) (⟨yk, yv⟩ : RV) HI.out.1 HI.out.2 HWn.out (HLe.out j)
                  have HI3 : Hid (RowRV W3 w.heap.size v3 ((R.take (j + 1)).filter fun x => keepC (verR x.k R) t x.v) ∧ Below w.heap.size w W3) := ⟨by rw [HS.out]; exact ho3, hb3⟩
                  dsimp only at hr3
                  rw [hgn] at hr3
                  clear ho3 hb3 hsn hkp
                  go_wp2_with (first | (refine wpList_exec rfl (exec_append rfl rfl rfl hr3) ?_; clear hr3) | fail)
                  go_roundg (n - (j + 1))
                  case measure => omega
                  case rel => exact ⟨j + 1, by rw [show (j : Int) + 1 = ((j + 1 : Nat) : Int) by omega], by omega, Nat.le_refl _, HI3⟩
                | true =>
                  have hkp2 : keepC (verR yk R) t yv = false := by rw [hkp]; revert hla; cases (verR yk R).any _ <;> simp
                  clear hkp hla
                  rename keepC (verR yk R) t yv = false => hkp
                  have HS : Hid ((R.take (j + 1)).filter (fun x => keepC (verR x.k R) t x.v) = (R.take j).filter (fun x => keepC (verR x.k R) t x.v)) := by show _ = _; rw [hsn, if_neg (by rw [hkp]; simp), List.append_nil]
                  have HI3 : Hid (RowRV wn w.heap.size u6 ((R.take (j + 1)).filter fun x => keepC (verR x.k R) t x.v) ∧ Below w.heap.size w wn) := ⟨by rw [HS.out]; exact row_on HI.out.1 HWn.out, HBn.out⟩
                  clear hsn hkp
                  go_wp2_with fail
                  go_roundg (n - (j + 1))
                  case measure => omega
                  case rel => exact ⟨j + 1, by rw [show (j : Int) + 1 = ((j + 1 : Nat) : Int) by omega], by omega, Nat.le_refl _, HI3⟩
        · obtain ⟨g2, eg, hc2⟩ := HAt.out j z hz
          cases eg
          have hneq : z.v.cm ≠ yv.cm := by
            rcases Nat.lt_or_gt_of_ne hji with q | q
            · exact Int.ne_of_lt (HAsc.out j i z ⟨yk, yv⟩ q hz HY.out hzk)
            · exact Ne.symm (Int.ne_of_lt (HAsc.out i j ⟨yk, yv⟩ z q HY.out hz hzk.symm))
          have hne : ((j : Int) == (i : Int)) = false := beq_false_of_ne (by omega)
          have hko := keep_other (x := yv) hlk2 (fun q => hneq q.1.symm)
          have HCz := Lib.hid hc2
          by_cases hzc : z.v.cm ≤ yv.cm
          · have hzc' := decide_eq_true hzc
            have hkp : keepC (verR yk R) t yv = true := by rw [hko]; exact hzc'
            clear d1 d2 d3 d4
            have d1 := (HCy.out wr HI.out.2).1
            go_wp2_with (first
              | (go_at_call 26; refine HAy.out.mono ?_; rintro e w1 ⟨rfl, hb⟩
                 have HW1 := Lib.hid hb
                 have HB1 : Hid (Below w.heap.size w w1) := below_step HI.out.2 hb
                 clear d1 hb)
              | fail)
            obtain ⟨d1, d2, d3, d4⟩ := HCy.out w1 HB1.out
            obtain ⟨_, f2, _, _⟩ := HCz.out w1 HB1.out
            go_big_quiet (fail)
            have HWa : Hid (Below wr.heap.size wr (w1.drewN nq)) := below_step HW1.out (below_drewN (Below.refl w1.heap.size w1) nq)
            have HBa : Hid (Below w.heap.size w (w1.drewN nq)) := below_step HB1.out (below_drewN (Below.refl w1.heap.size w1) nq)
            generalize w1.drewN nq = wa at *
            clear d1 d2 d3 d4 f2
            obtain ⟨d1, d2, d3, d4⟩ := HCy.out wa HBa.out

            have HS : Hid ((R.take (i + 1)).filter (fun x => keepC (verR x.k R) t x.v) = (R.take i).filter (fun x => keepC (verR x.k R) t x.v) ++ [⟨yk, yv⟩]) := by show _ = _; rw [hsn, if_pos hkp]
            obtain ⟨v3, W3, hr3, ho3, hb3⟩ := rv_more (W0 := w) (⟨yk, yv⟩ : RV) HI.out.1 HI.out.2 HWa.out (HLe.out i)
            have HI3 : Hid (RowRV W3 w.heap.size v3 ((R.take (i + 1)).filter fun x => keepC (verR x.k R) t x.v) ∧ Below w.heap.size w W3) := ⟨by rw [HS.out]; exact ho3, hb3⟩
            dsimp only at hr3
            clear ho3 hb3 hsn hkp
            go_wp2_with (first | (refine wpList_exec rfl (exec_append rfl rfl rfl hr3) ?_; clear hr3) | fail)
            go_roundg (L - (i + 1))
            case measure => omega
            case rel => exact ⟨i + 1, by rw [show (i : Int) + 1 = ((i + 1 : Nat) : Int) by omega], by omega, Nat.le_refl _, HI3⟩
          · have hzc' := decide_eq_false hzc
            have hkp : keepC (verR yk R) t yv = false := by rw [hko]; exact hzc'
            clear d1 d2 d3 d4
            have d1 := (HCy.out wr HI.out.2).1
            go_wp2_with (first
              | (go_at_call 26; refine HAy.out.mono ?_; rintro e w1 ⟨rfl, hb⟩
                 have HW1 := Lib.hid hb
                 have HB1 : Hid (Below w.heap.size w w1) := below_step HI.out.2 hb
                 clear d1 hb)
              | fail)
            obtain ⟨d1, d2, d3, d4⟩ := HCy.out w1 HB1.out
            obtain ⟨_, f2, _, _⟩ := HCz.out w1 HB1.out
            go_big_quiet (fail)
            have HWa : Hid (Below wr.heap.size wr (w1.drewN nq)) := below_step HW1.out (below_drewN (Below.refl w1.heap.size w1) nq)
            have HBa : Hid (Below w.heap.size w (w1.drewN nq)) := below_step HB1.out (below_drewN (Below.refl w1.heap.size w1) nq)
            generalize w1.drewN nq = wa at *
            clear d1 d2 d3 d4 f2
            obtain ⟨d1, d2, d3, d4⟩ := HCy.out wa HBa.out

            have HS : Hid ((R.take (i + 1)).filter (fun x => keepC (verR x.k R) t x.v) = (R.take i).filter (fun x => keepC (verR x.k R) t x.v)) := by show _ = _; rw [hsn, if_neg (by rw [hkp]; simp), List.append_nil]
            have HI3 : Hid (RowRV wa w.heap.size u6 ((R.take (i + 1)).filter fun x => keepC (verR x.k R) t x.v) ∧ Below w.heap.size w wa) := ⟨by rw [HS.out]; exact row_on HI.out.1 HWa.out, HBa.out⟩
            clear hsn hkp
            go_wp2_with fail
            go_roundg (L - (i + 1))
            case measure => omega
            case rel => exact ⟨i + 1, by rw [show (i : Int) + 1 = ((i + 1 : Nat) : Int) by omega], by omega, Nat.le_refl _, HI3⟩
    · obtain rfl : i = L := by omega
      have hge : ¬ (i : Int) < (i : Int) := by omega
      have HRo : Hid (RowRV wr w.heap.size u6 (pruneR R t)) := by have h := HI.out.1; rw [HEnd.out] at h; exact h
      obtain ⟨a6, c6, e6, _⟩ := row_shape HRo.out
      have hpl := HPl.out
      have hwr := wraps_i64 ((i : Int) - (pruneR R t).length) (by omega) (by omega)
      have HF : Hid (P (.returned (.tuple #[.slice a6 (pruneR R t).length c6, .int .i64 ((i : Int) - (pruneR R t).length)])) wr) := HP.out wr _ (by rw [← e6]; exact HRo.out) HI.out.2
      subst e6
      clear HRo HI HX HAt HAs HEnd HAll HLe HPl HAsc HLk HP
      generalize (pruneR R t).length = pl at *
      go_wp2_with fail
      exact HF.out
end Go.Proofs.YtagamkahfiackaaGreatDoor
