/- The walk of the law's 'values', where the values are the same. -/
import Derived.Test.YtonbecjankghaaaDoorOMem
namespace Go.Proofs.YtonbecjankghaaaDoor
open Go.RowKit Go.Sort

set_option maxHeartbeats 1000000 in
theorem values_ (a a' : Option Addr) (c c' : Nat) (vs : List Val) (w : World) (h : ValsIn w a vs) (h' : ValsIn w a' vs) (hlen : vs.length ≤ 140737488355328) :
    Calls Tryd.prog 12 #[.slice a vs.length c, .slice a' vs.length c'] w fun e w' => e = .returned (.bool true) ∧ Below w.heap.size w w' := by
  obtain ⟨L, hL⟩ : ∃ L, vs.length = L := ⟨_, rfl⟩
  have HL := Lib.hid hL
  have HI := Lib.hid h
  have HI' := Lib.hid h'
  rw [hL] at hlen
  rw [hL]
  have hGD := guardV
  clear h h' hL
  go_enter Tryd.func12, Tryd.ntmps12
  go_wp2_with fail
  go_loopw [5] (fun iv wr => ∃ i : Nat, i ≤ L ∧ iv = .int .i64 i ∧ Hid (Below w.heap.size w wr)) (fun iv _ => L - (intOf iv).toNat)
  case atStart => exact ⟨0, Nat.zero_le _, rfl, Below.refl _ _⟩
  case round =>
    obtain ⟨i, hi, rfl, HBw⟩ := hrel
    by_cases hlt : i < L
    · have hlt2 : (i : Int) < (L : Int) := by omega
      have hi2 : i < vs.length := by rw [HL.out]; exact hlt
      obtain ⟨b, o, rfl, q0⟩ := (HI.out.on HBw.out) i hi2
      obtain ⟨b', o', rfl, q1⟩ := (HI'.out.on HBw.out) i hi2
      generalize vs[i] = v at *
      obtain ⟨k, n, t, bb⟩ := v
      obtain ⟨p0, p1, p2, p3⟩ := q0
      obtain ⟨r0, r1, r2, r3⟩ := q1
      have hEQ : ∀ W, (Op.equalIn 10000 41 (.agg #[.int .i64 k, .int .i64 n, .string t, .bool bb]) (.agg #[.int .i64 k, .int .i64 n, .string t, .bool bb])).run Tryd.prog W = .ok true W := fun W => by rw [eqIn_, sameV_refl]
      go_wp2_with fail
      go_quiet (fail)
      have HB1 := Lib.hid (below_drewN HBw.out nq)
      go_wp2_with fail
      go_roundw
      case rel => exact ⟨i + 1, by omega, by go_num, HB1⟩
      case measure => simp [intOf]; omega
    · obtain rfl : i = L := by omega
      go_wp2_with fail
      go_ret
      exact ⟨rfl, HBw.out⟩
end Go.Proofs.YtonbecjankghaaaDoor
