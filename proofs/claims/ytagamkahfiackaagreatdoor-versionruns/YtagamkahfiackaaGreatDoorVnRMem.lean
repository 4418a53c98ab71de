/- The document's list in memory; As, Get, Changed. -/
import Derived.Test.YtagamkahfiackaaGreatDoorVnRMath
import Derived.Test.YtagamkahfiackaaGreatDoorJ7
import Derived.BigQuiet
namespace Go.Proofs.YtagamkahfiackaaGreatDoor
open Go.RowKit Go.Sort

attribute [local go_sem] Oper.semAt_some
def rvC (x : RV) : List Value := [.string x.k, .int .i64 x.v.cm, .string x.v.tx, .bool x.v.gn]
def cR (L : List RV) : List Value := L.flatMap rvC
theorem cR_nil : cR [] = [] := rfl
theorem cR_cons (x : RV) (L : List RV) : cR (x :: L) = .string x.k :: .int .i64 x.v.cm :: .string x.v.tx :: .bool x.v.gn :: cR L := rfl
theorem cR_append (a b : List RV) : cR (a ++ b) = cR a ++ cR b := by simp [cR]
theorem cR_len : ∀ L : List RV, (cR L).length = L.length * 4
  | [] => rfl
  | x :: L => by rw [cR_cons]; simp only [List.length_cons]; rw [cR_len L]; omega
theorem cR_one (L : List RV) : ∀ u ∈ cR L, u.oneCell' = true := by
  intro u hu
  obtain ⟨x, _, hx⟩ := List.mem_flatMap.1 hu
  simp only [rvC, List.mem_cons, List.not_mem_nil, or_false] at hx
  rcases hx with rfl | rfl | rfl | rfl <;> rfl
theorem cR_get : ∀ (L : List RV) (i : Nat) (x : RV), L[i]? = some x → (cR L)[i * 4]? = some (.string x.k) ∧ (cR L)[i * 4 + 1]? = some (.int .i64 x.v.cm) ∧ (cR L)[i * 4 + 2]? = some (.string x.v.tx) ∧ (cR L)[i * 4 + 3]? = some (.bool x.v.gn)
  | [], i, x, h => by simp at h
  | y :: L, 0, x, h => by simp at h; subst h; exact ⟨rfl, rfl, rfl, rfl⟩
  | y :: L, i + 1, x, h => by
    have := cR_get L i x (by simpa using h)
    rw [cR_cons]
    rw [show (i + 1) * 4 = i * 4 + 4 by omega]
    exact this
def RowRV (w : World) (B : Nat) (v : Value) (L : List RV) : Prop := w.ownsRow B 63 4 v L.length (cR L)
theorem infoRV : (Tryz.prog.info? 63).map (fun i => (i.zero, i.size, i.bytes)) = some (some (.agg #[.string ⟨#[]⟩, .int .i64 0, .string ⟨#[]⟩, .bool false]), 4, 48) := by kernel_rfl
def RvIn (w : World) (a : Option Addr) (L : List RV) : Prop := ∀ i x, L[i]? = some x → ∃ g, a = some ⟨g, 0, none⟩ ∧ ∀ V, Below w.heap.size w V → V.cell? ⟨g, i * 4, none⟩ = some (.string x.k) ∧ V.cell? ⟨g, i * 4 + 1, none⟩ = some (.int .i64 x.v.cm) ∧ V.cell? ⟨g, i * 4 + 2, none⟩ = some (.string x.v.tx) ∧ V.cell? ⟨g, i * 4 + 3, none⟩ = some (.bool x.v.gn)
theorem RowRV.items {w : World} {B : Nat} {v : Value} {L : List RV} (h : RowRV w B v L) : ∃ a c, v = .slice a L.length c ∧ RvIn w a L := by
  obtain ⟨a, c, e, _⟩ := row_shape h
  refine ⟨a, c, e, fun i x hi => ?_⟩
  subst e
  rcases h.2 with ⟨e, e2⟩ | ⟨g, cap, cur, e, _, h2, _, _, _, h6⟩
  · have := (List.getElem?_eq_some_iff.1 hi).1; omega
  · simp only [Value.slice.injEq] at e
    obtain ⟨rfl, _, _⟩ := e
    refine ⟨g, rfl, fun V hV => ?_⟩
    have hb := (hV.block g (blk_lt h2)).trans h2
    obtain ⟨k1, k2, k3, k4⟩ := cR_get L i x hi
    have key : ∀ (j : Nat) u, (cR L)[j]? = some u → V.cell? ⟨g, j, none⟩ = some u := fun j u hj => by
      refine cell_of hb ?_
      rw [← h6, List.getElem?_take] at hj
      split at hj
      · simpa using hj
      · cases hj
    exact ⟨key _ _ k1, key _ _ k2, key _ _ k3, key _ _ k4⟩
def ixV (o : Option Nat) : Value := .int .i64 (match o with | none => -1 | some j => (j : Int))
set_option maxRecDepth 100000 in
set_option maxHeartbeats 4000000 in
theorem ras_ {w : World} {B : Nat} {v : Value} {R : List RV} (hr : RowRV w B v R) (hl : R.length ≤ 1000) (k : ByteArray) (ha : AscC (verR k R)) (t : Int) :
    Calls Tryz.prog 26 #[v, .string k, .int .i64 t] w fun e w' => e = .returned (ixV (lixN (asP k t) R R.length)) ∧ Below w.heap.size w w' := by
  obtain ⟨a, c, rfl, hat⟩ := hr.items
  have HAt := Lib.hid hat
  have HX : Hid (∀ i, i < R.length → ∃ x, R[i]? = some x) := fun i hi => ⟨_, List.getElem?_eq_getElem hi⟩
  have HAsc : Hid (∀ (i j : Nat) (x y : RV), i < j → R[i]? = some x → R[j]? = some y → x.k = k → y.k = k → x.v.cm < y.v.cm) := fun i j x y hij hx hy kx ky => asc_ix ha hij hx hy kx ky
  clear hr hat ha
  generalize hL : R.length = L at *
  go_enter Tryz.func26, Tryz.ntmps26
  go_wp2_with fail
  go_loopg [7, 8] L (fun kx v7 v8 wr => ∃ i : Nat, v8 = .int .i64 i ∧ i ≤ L ∧ L - i ≤ kx ∧ v7 = ixV (lixN (asP k t) R i) ∧ Hid (Below w.heap.size w wr))
  case atStart => exact ⟨0, rfl, Nat.zero_le _, by omega, rfl, Below.refl _ _⟩
  case round =>
    obtain ⟨i, rfl, hi, hkx, rfl, HB⟩ := hrel
    by_cases hlt : i < L
    · obtain ⟨x, hx⟩ := HX.out i hlt
      obtain ⟨g, rfl, hc⟩ := HAt.out i x hx
      obtain ⟨d1, d2, d3, d4⟩ := hc wr HB.out
      have hw1 := wraps_i64 ((i : Int) + 1) (by omega) (by omega)
      have hlt' : (i : Int) < (L : Int) := by omega
      have hiL := decide_eq_true hlt
      by_cases hk : x.k = k
      · by_cases ht : x.v.cm ≤ t
        · have ht' := decide_eq_true ht
          have hp : asP k t x = true := by unfold asP; rw [eqk_iff.2 hk]; simpa using ht
          have HN : Hid (lixN (asP k t) R (i + 1) = some i) := lix_hit hx hp
          cases hq : lixN (asP k t) R i with
          | none =>
            subst hk
            unfold ixV
            clear HAsc HX HAt hc hx hp hq d3 d4
            generalize x.k = xk at *
            generalize x.v.cm = xc at *
            dsimp only
            go_wp2_with fail
            go_big_quiet (fail)
            have HB1 := Lib.hid (below_drewN (Below.refl wr.heap.size wr) nq)
            go_wp2_with fail
            go_roundg (L - (i + 1))
            case measure => omega
            case rel => exact ⟨i + 1, by rw [show (i : Int) + 1 = ((i + 1 : Nat) : Int) by omega], by omega, Nat.le_refl _, by rw [HN.out]; rfl, below_step HB.out HB1.out⟩
          | some j =>
            obtain ⟨hj, y, hy, hyp⟩ := lix_spec hq
            simp only [asP, Bool.and_eq_true, decide_eq_true_eq] at hyp
            have hlt2 := HAsc.out j i y x hj hy hx (eqk_iff.1 hyp.1) hk
            obtain ⟨g', eg, hc'⟩ := HAt.out j y hy
            cases eg
            obtain ⟨_, e2, _, _⟩ := hc' wr HB.out
            subst hk
            unfold ixV
            have hjL : j < L := by omega
            have hjL' := decide_eq_true hjL
            have hge : ¬ ((j : Int) < 0) := by omega
            have hge' := decide_eq_false hge
            have hlt3 := decide_eq_true hlt2
            clear HAsc HX HAt hc hx hp hq hc' hy hyp d3 d4
            generalize x.k = xk at *
            generalize x.v.cm = xc at *
            generalize y.v.cm = yc at *
            dsimp only
            go_wp2_with fail
            go_big_quiet (fail)
            have HB1 := Lib.hid (below_drewN (Below.refl wr.heap.size wr) nq)
            go_wp2_with fail
            go_roundg (L - (i + 1))
            case measure => omega
            case rel => exact ⟨i + 1, by rw [show (i : Int) + 1 = ((i + 1 : Nat) : Int) by omega], by omega, Nat.le_refl _, by rw [HN.out]; rfl, below_step HB.out HB1.out⟩
        · have hp : asP k t x = false := by unfold asP; rw [eqk_iff.2 hk]; simpa using ht
          have HN : Hid (lixN (asP k t) R (i + 1) = lixN (asP k t) R i) := lix_miss hx hp
          have ht' := decide_eq_false ht
          subst hk
          obtain ⟨ov, hov⟩ : ∃ ov, ov = ixV (lixN (asP x.k t) R i) := ⟨_, rfl⟩
          rw [← hov]
          have HOV := Lib.hid hov
          clear HAsc HX HAt hc hx hp d3 d4 hov
          generalize x.v.cm = xc at *
          go_wp2_with fail
          go_big_quiet (fail)
          have HB1 := Lib.hid (below_drewN (Below.refl wr.heap.size wr) nq)
          go_wp2_with fail
          go_roundg (L - (i + 1))
          case measure => omega
          case rel => exact ⟨i + 1, by rw [show (i : Int) + 1 = ((i + 1 : Nat) : Int) by omega], by omega, Nat.le_refl _, by rw [HN.out]; exact HOV.out, below_step HB.out HB1.out⟩
      · have hp : asP k t x = false := by unfold asP; rw [eqk_false hk]; rfl
        have HN : Hid (lixN (asP k t) R (i + 1) = lixN (asP k t) R i) := lix_miss hx hp
        have hne : (x.k.toList == k.toList) = false := eqk_false hk
        obtain ⟨ov, hov⟩ : ∃ ov, ov = ixV (lixN (asP k t) R i) := ⟨_, rfl⟩
        rw [← hov]
        have HOV := Lib.hid hov
        clear HAsc HX HAt hc hx hp d3 d4 d2 hov
        generalize x.k = xk at *
        go_wp2_with fail
        go_big_quiet (fail)
        have HB1 := Lib.hid (below_drewN (Below.refl wr.heap.size wr) nq)
        go_wp2_with fail
        go_roundg (L - (i + 1))
        case measure => omega
        case rel => exact ⟨i + 1, by rw [show (i : Int) + 1 = ((i + 1 : Nat) : Int) by omega], by omega, Nat.le_refl _, by rw [HN.out]; exact HOV.out, below_step HB.out HB1.out⟩
    · obtain rfl : i = L := by omega
      obtain ⟨ov, hov⟩ : ∃ ov, ov = ixV (lixN (asP k t) R i) := ⟨_, rfl⟩
      rw [← hov]
      have HOV := Lib.hid hov
      clear HAsc HX HAt hov
      have hge : ¬ (i : Int) < (i : Int) := by omega
      go_wp2_with fail
      go_ret
      exact ⟨by rw [← HOV.out]; rfl, HB.out⟩
end Go.Proofs.YtagamkahfiackaaGreatDoor
