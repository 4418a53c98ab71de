/- Two values compared by '=='. -/
import Derived.Test.YtfplncbechidnaaGreatDoorW2
import Derived.Laws.StructEq
namespace Go.Proofs.YtfplncbechidnaaGreatDoor
open Go.RowKit Go.Sort

def sameV (k n : Int) (t : ByteArray) (b : Bool) (k' n' : Int) (t' : ByteArray) (b' : Bool) : Bool := k == k' && (n == n' && (t.toList == t'.toList && b == b'))
theorem sameV_iff {k n : Int} {t : ByteArray} {b : Bool} {k' n' : Int} {t' : ByteArray} {b' : Bool} : sameV k n t b k' n' t' b' = true ↔ (⟨k, n, t, b⟩ : Val) = ⟨k', n', t', b'⟩ := by
  unfold sameV
  simp only [Bool.and_eq_true, beq_iff_eq, Val.mk.injEq]
  constructor
  · rintro ⟨a, b, c, d⟩; exact ⟨a, b, toList_inj c, d⟩
  · rintro ⟨a, b, c, d⟩; exact ⟨a, b, by rw [c], d⟩
theorem sameV_refl (k n : Int) (t : ByteArray) (b : Bool) : sameV k n t b k n t b = true := sameV_iff.2 rfl
theorem fieldsV : (Tryz.prog.fieldsOf 23).toList.map (fun f => (f.name, f.type, f.offset)) = [("Kind", 3, 0), ("Int", 3, 1), ("Text", 9, 2), ("Bool", 4, 3)] := by kernel_rfl
theorem guardV : Tryz.prog.eqGuardType Tryz.prog.depth 23 = false := by kernel_rfl
theorem heldV : Tryz.prog.stoodInHeld 23 = false := by kernel_rfl
theorem part_at (w : World) (A : Array Value) (i : Nat) (v : Value) (ty : TypeId) (hagg : (isAgg ty).run Tryz.prog w = .ok false w) (h : A[i]? = some v) : (part ty A i).run Tryz.prog w = .ok v w := by
  simp [part, Sem.run_bind, hagg, h]
theorem agg3 (w : World) : (isAgg 3).run Tryz.prog w = .ok false w := by
  unfold isAgg; rw [Sem.run_bind, run_underlying Tryz.underlying3 w]; rfl
theorem agg4 (w : World) : (isAgg 4).run Tryz.prog w = .ok false w := by
  unfold isAgg; rw [Sem.run_bind, run_underlying Tryz.underlying4 w]; rfl
theorem agg9 (w : World) : (isAgg 9).run Tryz.prog w = .ok false w := by
  unfold isAgg; rw [Sem.run_bind, run_underlying Tryz.underlying9 w]; rfl
theorem eqIn_ (w : World) (k n : Int) (t : ByteArray) (b : Bool) (k' n' : Int) (t' : ByteArray) (b' : Bool) :
    (Op.equalIn 10000 23 (.agg #[.int .i64 k, .int .i64 n, .string t, .bool b]) (.agg #[.int .i64 k', .int .i64 n', .string t', .bool b'])).run Tryz.prog w = .ok (sameV k n t b k' n' t' b') w := by
  rw [run_equalIn_struct w 9999 23 _ _ (by kernel_rfl) heldV]
  have hf := fieldsV
  generalize (Tryz.prog.fieldsOf 23).toList = fs at *
  obtain ⟨f0, f1, f2, f3, rfl⟩ : ∃ f0 f1 f2 f3, fs = [f0, f1, f2, f3] := by
    have hl := congrArg List.length hf
    rcases fs with _ | ⟨f0, _ | ⟨f1, _ | ⟨f2, _ | ⟨f3, _ | ⟨f4, fs⟩⟩⟩⟩⟩ <;> first | exact ⟨_, _, _, _, rfl⟩ | simp at hl
  simp only [List.map_cons, List.map_nil, List.cons.injEq, Prod.mk.injEq, and_true] at hf
  obtain ⟨⟨a0, a1, a2⟩, ⟨b0, b1, b2⟩, ⟨c0, c1, c2⟩, ⟨d0, d1, d2⟩⟩ := hf
  have p0 := part_at w #[.int .i64 k, .int .i64 n, .string t, .bool b] 0 (.int .i64 k) 3 (agg3 w) rfl
  have p1 := part_at w #[.int .i64 k, .int .i64 n, .string t, .bool b] 1 (.int .i64 n) 3 (agg3 w) rfl
  have p2 := part_at w #[.int .i64 k, .int .i64 n, .string t, .bool b] 2 (.string t) 9 (agg9 w) rfl
  have p3 := part_at w #[.int .i64 k, .int .i64 n, .string t, .bool b] 3 (.bool b) 4 (agg4 w) rfl
  have q0 := part_at w #[.int .i64 k', .int .i64 n', .string t', .bool b'] 0 (.int .i64 k') 3 (agg3 w) rfl
  have q1 := part_at w #[.int .i64 k', .int .i64 n', .string t', .bool b'] 1 (.int .i64 n') 3 (agg3 w) rfl
  have q2 := part_at w #[.int .i64 k', .int .i64 n', .string t', .bool b'] 2 (.string t') 9 (agg9 w) rfl
  have q3 := part_at w #[.int .i64 k', .int .i64 n', .string t', .bool b'] 3 (.bool b') 4 (agg4 w) rfl
  have e0 := run_equalIn_int (P := Tryz.prog) w 9998 3 .i64 .i64 k k' Tryz.underlying3
  have e1 := run_equalIn_int (P := Tryz.prog) w 9998 3 .i64 .i64 n n' Tryz.underlying3
  have e2 := run_equalIn_string (P := Tryz.prog) w 9998 9 t t' Tryz.underlying9
  have e3 := run_equalIn_bool' (P := Tryz.prog) w 9998 4 b b' Tryz.underlying4
  generalize #[Value.int .i64 k, Value.int .i64 n, Value.string t, Value.bool b] = A at *
  generalize #[Value.int .i64 k', Value.int .i64 n', Value.string t', Value.bool b'] = B at *
  unfold sameV
  simp only [Op.eqFields, a0, a1, a2, b0, b1, b2, c0, c1, c2, d0, d1, d2, Sem.run_bind, Sem.run_ite, p0, p1, p2, p3, q0, q1, q2, q3, e0, e1, e2, e3, Result.andThen_ok]
  cases (k == k') <;> cases (n == n') <;> cases (t.toList == t'.toList) <;> cases (b == b') <;> simp
end Go.Proofs.YtfplncbechidnaaGreatDoor
