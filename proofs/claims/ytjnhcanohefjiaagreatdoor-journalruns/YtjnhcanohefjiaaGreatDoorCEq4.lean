/- Two arrays of four bytes compared. -/
import Derived.Test.YtjnhcanohefjiaaGreatDoorCSeal
namespace Go.Proofs.YtjnhcanohefjiaaGreatDoor
open Go.RowKit Go.Sort

theorem part_at (w : World) (A : Array Value) (i : Nat) (v : Value) (h : A[i]? = some v) : (part 5 A i).run Tryz.prog w = .ok v w := by
  have hagg : (isAgg 5).run Tryz.prog w = .ok false w := by
    unfold isAgg
    rw [Sem.run_bind, run_underlying Tryz.underlying5 w]
    rfl
  simp [part, Sem.run_bind, hagg, h]
theorem eq4 (d : Nat) (w : World) (z0 z1 z2 z3 q0 q1 q2 q3 : Int) :
    (Op.equalIn (d + 1 + 1) 172 (.agg #[.int .u8 z0, .int .u8 z1, .int .u8 z2, .int .u8 z3]) (.agg #[.int .u8 q0, .int .u8 q1, .int .u8 q2, .int .u8 q3])).run Tryz.prog w = .ok (z0 == q0 && z1 == q1 && z2 == q2 && z3 == q3) w := by
  have hsz : (sizeOf 5).run Tryz.prog w = .ok 1 w := by
    obtain ⟨i0, hi, hz0, hz1, hz2⟩ := info_parts infoB
    simp [sizeOf, typeInfo, hi, hz1]
  have he := fun (x y : Int) => run_equalIn_int (P := Tryz.prog) w d 5 .u8 .u8 x y Tryz.underlying5
  have p0 := part_at w #[.int .u8 z0, .int .u8 z1, .int .u8 z2, .int .u8 z3] 0 (.int .u8 z0) rfl
  have p1 := part_at w #[.int .u8 z0, .int .u8 z1, .int .u8 z2, .int .u8 z3] 1 (.int .u8 z1) rfl
  have p2 := part_at w #[.int .u8 z0, .int .u8 z1, .int .u8 z2, .int .u8 z3] 2 (.int .u8 z2) rfl
  have p3 := part_at w #[.int .u8 z0, .int .u8 z1, .int .u8 z2, .int .u8 z3] 3 (.int .u8 z3) rfl
  have r0 := part_at w #[.int .u8 q0, .int .u8 q1, .int .u8 q2, .int .u8 q3] 0 (.int .u8 q0) rfl
  have r1 := part_at w #[.int .u8 q0, .int .u8 q1, .int .u8 q2, .int .u8 q3] 1 (.int .u8 q1) rfl
  have r2 := part_at w #[.int .u8 q0, .int .u8 q1, .int .u8 q2, .int .u8 q3] 2 (.int .u8 q2) rfl
  have r3 := part_at w #[.int .u8 q0, .int .u8 q1, .int .u8 q2, .int .u8 q3] 3 (.int .u8 q3) rfl
  rw [Op.equalIn]
  simp only [Sem.run_bind, run_underlying Tryz.underlying172, Result.andThen_ok, hsz, Std.Legacy.Range.forIn_eq_forIn_range', Std.Legacy.Range.size]
  generalize #[Value.int .u8 z0, .int .u8 z1, .int .u8 z2, .int .u8 z3] = A at *
  generalize #[Value.int .u8 q0, .int .u8 q1, .int .u8 q2, .int .u8 q3] = B at *
  rw [show List.range' 0 ((4 - 0 + 1 - 1) / 1) = [0, 1, 2, 3] from rfl]
  cases h0 : (z0 == q0) <;> cases h1 : (z1 == q1) <;> cases h2 : (z2 == q2) <;> cases h3 : (z3 == q3) <;> simp [List.forIn_cons, Sem.run_bind, p0, p1, p2, p3, r0, r1, r2, r3, he, h0, h1, h2, h3, Result.andThen_ok]
theorem neq4 (w : World) (z0 z1 z2 z3 q0 q1 q2 q3 : Int) :
    (binOp .neq 172 (.agg #[.int .u8 z0, .int .u8 z1, .int .u8 z2, .int .u8 z3]) (.agg #[.int .u8 q0, .int .u8 q1, .int .u8 q2, .int .u8 q3])).run Tryz.prog w = .ok (.bool (!(z0 == q0 && z1 == q1 && z2 == q2 && z3 == q3))) w := by
  rw [run_neq_struct, eq4 9998]
  rfl
end Go.Proofs.YtjnhcanohefjiaaGreatDoor
