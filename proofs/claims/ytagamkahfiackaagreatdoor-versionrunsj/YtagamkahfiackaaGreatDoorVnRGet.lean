/- The document's Get, Changed. -/
import Derived.Test.YtagamkahfiackaaGreatDoorVnRMem
import Derived.Test.YtagamkahfiackaaGreatDoorVnRHas
namespace Go.Proofs.YtagamkahfiackaaGreatDoor
open Go.RowKit Go.Sort

attribute [local go_sem] Oper.semAt_some
set_option maxRecDepth 100000 in
set_option maxHeartbeats 2000000 in
theorem rget16_ {w : World} {B : Nat} {v : Value} {R : List RV} (hr : RowRV w B v R) (hl : R.length ≤ 1000) (k : ByteArray) (ha : AscC (verR k R)) (t : Int) :
    Calls Tryz.prog 7 #[v, .string k, .int .i64 t] w fun e w' => e = .returned (.tuple #[.string ((rowC (verR k R) t).getD ⟨#[]⟩), .bool (rowC (verR k R) t).isSome]) ∧ Below w.heap.size w w' := by
  have HA := Lib.hid (ras_ hr hl k ha t)
  obtain ⟨a, c, rfl, hat⟩ := hr.items
  have hlink := as_link k t R
  have hrow : rowC (verR k R) t = rowO (((lixN (asP k t) R R.length).bind fun j => R[j]?).map (·.v)) := by rw [← hlink]; rfl
  rw [hrow]
  clear hlink hrow
  cases hq : lixN (asP k t) R R.length with
  | none =>
    rw [hq] at HA
    unfold ixV at HA
    clear hr hat hq ha
    generalize R.length = L at *
    dsimp only [Option.bind, Option.map, rowO, Option.getD, Option.isSome]
    go_enter Tryz.func7, Tryz.ntmps7
    go_wp2_with (first
      | (go_at_call 26; refine HA.out.mono ?_; rintro e w1 ⟨rfl, hb⟩; have HB := Lib.hid hb; clear hb)
      | fail)
    go_ret2
    exact ⟨rfl, HB.out⟩
  | some j =>
    rw [hq] at HA
    unfold ixV at HA
    obtain ⟨hj, y, hy, _⟩ := lix_spec hq
    obtain ⟨g, rfl, hc⟩ := hat j y hy
    have HC := Lib.hid hc
    clear hr hat hq ha hc
    rw [show ((some j).bind fun j => R[j]?) = some y from hy]
    clear hy
    generalize R.length = L at *
    have hge : ¬ ((j : Int) < 0) := by omega
    have hge' := decide_eq_false hge
    have hjL' := decide_eq_true hj
    obtain ⟨yk, yc, yt, yg⟩ := y
    dsimp only at *
    cases yg with
    | true =>
      dsimp only [Option.map, rowO, Option.getD, Option.isSome]
      go_enter Tryz.func7, Tryz.ntmps7
      go_wp2_with (first
        | (go_at_call 26; refine HA.out.mono ?_; rintro e w1 ⟨rfl, hb⟩; have HB := Lib.hid hb; obtain ⟨d1, d2, d3, d4⟩ := HC.out w1 hb; clear hb)
        | fail)
      go_ret2
      exact ⟨rfl, HB.out⟩
    | false =>
      dsimp only [Option.map, rowO, Option.getD, Option.isSome]
      go_enter Tryz.func7, Tryz.ntmps7
      go_wp2_with (first
        | (go_at_call 26; refine HA.out.mono ?_; rintro e w1 ⟨rfl, hb⟩; have HB := Lib.hid hb; obtain ⟨d1, d2, d3, d4⟩ := HC.out w1 hb; clear hb)
        | fail)
      go_ret2
      exact ⟨rfl, HB.out⟩
end Go.Proofs.YtagamkahfiackaaGreatDoor
