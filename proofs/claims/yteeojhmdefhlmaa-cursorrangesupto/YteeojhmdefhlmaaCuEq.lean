/- Two ranges compared by '=='. -/
import Derived.Test.YteeojhmdefhlmaaCuHas
import Derived.Laws.StructEq
namespace Go.Proofs.Yteeojhmdefhlmaa
open Go.RowKit Go.Sort

theorem fieldsU : (Try.prog.fieldsOf 24).toList.map (fun f => (f.name, f.type, f.offset)) = [("From", 9, 0), ("To", 9, 1), ("HasFrom", 4, 2), ("HasTo", 4, 3), ("OpenFrom", 4, 4), ("OpenTo", 4, 5)] := by kernel_rfl
theorem guardU : Try.prog.eqGuardType Try.prog.depth 24 = false := by kernel_rfl
theorem heldU : Try.prog.stoodInHeld 24 = false := by kernel_rfl
theorem part_atU (w : World) (A : Array Value) (i : Nat) (v : Value) (ty : TypeId) (hagg : (isAgg ty).run Try.prog w = .ok false w) (h : A[i]? = some v) : (part ty A i).run Try.prog w = .ok v w := by
  simp [part, Sem.run_bind, hagg, h]
theorem agg4U (w : World) : (isAgg 4).run Try.prog w = .ok false w := by
  unfold isAgg; rw [Sem.run_bind, run_underlying Try.underlying4 w]; rfl
theorem agg9U (w : World) : (isAgg 9).run Try.prog w = .ok false w := by
  unfold isAgg; rw [Sem.run_bind, run_underlying Try.underlying9 w]; rfl
set_option maxRecDepth 100000 in
theorem eqU_ (w : World) (f t : ByteArray) (a b c d : Bool) :
    (Op.equalIn 10000 24 (.agg #[.string f, .string t, .bool a, .bool b, .bool c, .bool d]) (.agg #[.string f, .string t, .bool a, .bool b, .bool c, .bool d])).run Try.prog w = .ok true w := by
  rw [run_equalIn_struct w 9999 24 _ _ (by kernel_rfl) heldU]
  have hf := fieldsU
  generalize (Try.prog.fieldsOf 24).toList = fs at *
  obtain ⟨f0, f1, f2, f3, f4, f5, rfl⟩ : ∃ f0 f1 f2 f3 f4 f5, fs = [f0, f1, f2, f3, f4, f5] := by
    have hl := congrArg List.length hf
    rcases fs with _ | ⟨f0, _ | ⟨f1, _ | ⟨f2, _ | ⟨f3, _ | ⟨f4, _ | ⟨f5, _ | ⟨f6, fs⟩⟩⟩⟩⟩⟩⟩ <;> first | exact ⟨_, _, _, _, _, _, rfl⟩ | simp at hl
  simp only [List.map_cons, List.map_nil, List.cons.injEq, Prod.mk.injEq, and_true] at hf
  obtain ⟨⟨a0, a1, a2⟩, ⟨b0, b1, b2⟩, ⟨c0, c1, c2⟩, ⟨d0, d1, d2⟩, ⟨g0, g1, g2⟩, ⟨h0, h1, h2⟩⟩ := hf
  have p0 := part_atU w #[.string f, .string t, .bool a, .bool b, .bool c, .bool d] 0 (.string f) 9 (agg9U w) rfl
  have p1 := part_atU w #[.string f, .string t, .bool a, .bool b, .bool c, .bool d] 1 (.string t) 9 (agg9U w) rfl
  have p2 := part_atU w #[.string f, .string t, .bool a, .bool b, .bool c, .bool d] 2 (.bool a) 4 (agg4U w) rfl
  have p3 := part_atU w #[.string f, .string t, .bool a, .bool b, .bool c, .bool d] 3 (.bool b) 4 (agg4U w) rfl
  have p4 := part_atU w #[.string f, .string t, .bool a, .bool b, .bool c, .bool d] 4 (.bool c) 4 (agg4U w) rfl
  have p5 := part_atU w #[.string f, .string t, .bool a, .bool b, .bool c, .bool d] 5 (.bool d) 4 (agg4U w) rfl
  have e0 := run_equalIn_string (P := Try.prog) w 9998 9 f f Try.underlying9
  have e1 := run_equalIn_string (P := Try.prog) w 9998 9 t t Try.underlying9
  have e2 := run_equalIn_bool' (P := Try.prog) w 9998 4 a a Try.underlying4
  have e3 := run_equalIn_bool' (P := Try.prog) w 9998 4 b b Try.underlying4
  have e4 := run_equalIn_bool' (P := Try.prog) w 9998 4 c c Try.underlying4
  have e5 := run_equalIn_bool' (P := Try.prog) w 9998 4 d d Try.underlying4
  generalize #[Value.string f, Value.string t, Value.bool a, Value.bool b, Value.bool c, Value.bool d] = A at *
  simp [Op.eqFields, a0, a1, a2, b0, b1, b2, c0, c1, c2, d0, d1, d2, g0, g1, g2, h0, h1, h2, Sem.run_bind, Sem.run_ite, p0, p1, p2, p3, p4, p5, e0, e1, e2, e3, e4, e5, Result.andThen_ok]
end Go.Proofs.Yteeojhmdefhlmaa
