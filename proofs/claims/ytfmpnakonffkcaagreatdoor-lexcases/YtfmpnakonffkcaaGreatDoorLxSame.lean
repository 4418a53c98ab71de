/- Two tokens compared; the law's sure. -/
import Derived.Test.YtfmpnakonffkcaaGreatDoorLxLex
namespace Go.Proofs.YtfmpnakonffkcaaGreatDoor
open Go.RowKit Go.Sort

def sameT (k : Int) (t : ByteArray) (n p : Int) (k' : Int) (t' : ByteArray) (n' p' : Int) : Bool := k == k' && (t.toList == t'.toList && (n == n' && p == p'))
theorem sameT_iff {k : Int} {t : ByteArray} {n p : Int} {k' : Int} {t' : ByteArray} {n' p' : Int} : sameT k t n p k' t' n' p' = true ↔ (⟨k, t, n, p⟩ : Tk) = ⟨k', t', n', p'⟩ := by
  unfold sameT
  simp only [Bool.and_eq_true, beq_iff_eq, Tk.mk.injEq, toList_lst]
  constructor
  · rintro ⟨a, b, c, d⟩; exact ⟨a, lst_inj b, c, d⟩
  · rintro ⟨a, b, c, d⟩; exact ⟨a, by rw [b], c, d⟩
theorem part_at (w : World) (A : Array Value) (i : Nat) (v : Value) (ty : TypeId) (hagg : (isAgg ty).run Tryz.prog w = .ok false w) (h : A[i]? = some v) : (part ty A i).run Tryz.prog w = .ok v w := by
  simp [part, Sem.run_bind, hagg, h]
theorem agg3 (w : World) : (isAgg 3).run Tryz.prog w = .ok false w := by
  unfold isAgg; rw [Sem.run_bind, run_underlying Tryz.underlying3 w]; rfl
theorem agg9 (w : World) : (isAgg 9).run Tryz.prog w = .ok false w := by
  unfold isAgg; rw [Sem.run_bind, run_underlying Tryz.underlying9 w]; rfl
theorem fieldsT : (Tryz.prog.fieldsOf 46).toList.map (fun f => (f.name, f.type, f.offset)) = [("Kind", 3, 0), ("Text", 9, 1), ("Int", 3, 2), ("At", 3, 3)] := by kernel_rfl
theorem guardT : Tryz.prog.eqGuardType Tryz.prog.depth 46 = false := by kernel_rfl
theorem heldT : Tryz.prog.stoodInHeld 46 = false := by kernel_rfl
theorem eqT_ (w : World) (k : Int) (t : ByteArray) (n p : Int) (k' : Int) (t' : ByteArray) (n' p' : Int) :
    (Op.equalIn 10000 46 (.agg #[.int .i64 k, .string t, .int .i64 n, .int .i64 p]) (.agg #[.int .i64 k', .string t', .int .i64 n', .int .i64 p'])).run Tryz.prog w = .ok (sameT k t n p k' t' n' p') w := by
  rw [run_equalIn_struct w 9999 46 _ _ (by kernel_rfl) heldT]
  have hf := fieldsT
  generalize (Tryz.prog.fieldsOf 46).toList = fs at *
  obtain ⟨f0, f1, f2, f3, rfl⟩ : ∃ f0 f1 f2 f3, fs = [f0, f1, f2, f3] := by
    have hl := congrArg List.length hf
    rcases fs with _ | ⟨f0, _ | ⟨f1, _ | ⟨f2, _ | ⟨f3, _ | ⟨f4, fs⟩⟩⟩⟩⟩ <;> first | exact ⟨_, _, _, _, rfl⟩ | simp at hl
  simp only [List.map_cons, List.map_nil, List.cons.injEq, Prod.mk.injEq, and_true] at hf
  obtain ⟨⟨a0, a1, a2⟩, ⟨b0, b1, b2⟩, ⟨c0, c1, c2⟩, ⟨d0, d1, d2⟩⟩ := hf
  have p0 := part_at w #[.int .i64 k, .string t, .int .i64 n, .int .i64 p] 0 (.int .i64 k) 3 (agg3 w) rfl
  have p1 := part_at w #[.int .i64 k, .string t, .int .i64 n, .int .i64 p] 1 (.string t) 9 (agg9 w) rfl
  have p2 := part_at w #[.int .i64 k, .string t, .int .i64 n, .int .i64 p] 2 (.int .i64 n) 3 (agg3 w) rfl
  have p3 := part_at w #[.int .i64 k, .string t, .int .i64 n, .int .i64 p] 3 (.int .i64 p) 3 (agg3 w) rfl
  have q0 := part_at w #[.int .i64 k', .string t', .int .i64 n', .int .i64 p'] 0 (.int .i64 k') 3 (agg3 w) rfl
  have q1 := part_at w #[.int .i64 k', .string t', .int .i64 n', .int .i64 p'] 1 (.string t') 9 (agg9 w) rfl
  have q2 := part_at w #[.int .i64 k', .string t', .int .i64 n', .int .i64 p'] 2 (.int .i64 n') 3 (agg3 w) rfl
  have q3 := part_at w #[.int .i64 k', .string t', .int .i64 n', .int .i64 p'] 3 (.int .i64 p') 3 (agg3 w) rfl
  have e0 := run_equalIn_int (P := Tryz.prog) w 9998 3 .i64 .i64 k k' Tryz.underlying3
  have e1 := run_equalIn_string (P := Tryz.prog) w 9998 9 t t' Tryz.underlying9
  have e2 := run_equalIn_int (P := Tryz.prog) w 9998 3 .i64 .i64 n n' Tryz.underlying3
  have e3 := run_equalIn_int (P := Tryz.prog) w 9998 3 .i64 .i64 p p' Tryz.underlying3
  generalize #[Value.int .i64 k, Value.string t, Value.int .i64 n, Value.int .i64 p] = A at *
  generalize #[Value.int .i64 k', Value.string t', Value.int .i64 n', Value.int .i64 p'] = B at *
  unfold sameT
  simp only [Op.eqFields, a0, a1, a2, b0, b1, b2, c0, c1, c2, d0, d1, d2, Sem.run_bind, Sem.run_ite, p0, p1, p2, p3, q0, q1, q2, q3, e0, e1, e2, e3, Result.andThen_ok]
  cases (k == k') <;> cases (t.toList == t'.toList) <;> cases (n == n') <;> cases (p == p') <;> simp
theorem fieldsR : (Tryz.prog.fieldsOf 49).toList.map (fun f => (f.name, f.type, f.offset)) = [("Kind", 3, 0), ("Text", 9, 1), ("Int", 3, 2), ("At", 3, 3)] := by kernel_rfl
theorem guardR : Tryz.prog.eqGuardType Tryz.prog.depth 49 = false := by kernel_rfl
theorem heldR : Tryz.prog.stoodInHeld 49 = false := by kernel_rfl
theorem eqR_ (w : World) (k : Int) (t : ByteArray) (n p : Int) (k' : Int) (t' : ByteArray) (n' p' : Int) :
    (Op.equalIn 10000 49 (.agg #[.int .i64 k, .string t, .int .i64 n, .int .i64 p]) (.agg #[.int .i64 k', .string t', .int .i64 n', .int .i64 p'])).run Tryz.prog w = .ok (sameT k t n p k' t' n' p') w := by
  rw [run_equalIn_struct w 9999 49 _ _ (by kernel_rfl) heldR]
  have hf := fieldsR
  generalize (Tryz.prog.fieldsOf 49).toList = fs at *
  obtain ⟨f0, f1, f2, f3, rfl⟩ : ∃ f0 f1 f2 f3, fs = [f0, f1, f2, f3] := by
    have hl := congrArg List.length hf
    rcases fs with _ | ⟨f0, _ | ⟨f1, _ | ⟨f2, _ | ⟨f3, _ | ⟨f4, fs⟩⟩⟩⟩⟩ <;> first | exact ⟨_, _, _, _, rfl⟩ | simp at hl
  simp only [List.map_cons, List.map_nil, List.cons.injEq, Prod.mk.injEq, and_true] at hf
  obtain ⟨⟨a0, a1, a2⟩, ⟨b0, b1, b2⟩, ⟨c0, c1, c2⟩, ⟨d0, d1, d2⟩⟩ := hf
  have p0 := part_at w #[.int .i64 k, .string t, .int .i64 n, .int .i64 p] 0 (.int .i64 k) 3 (agg3 w) rfl
  have p1 := part_at w #[.int .i64 k, .string t, .int .i64 n, .int .i64 p] 1 (.string t) 9 (agg9 w) rfl
  have p2 := part_at w #[.int .i64 k, .string t, .int .i64 n, .int .i64 p] 2 (.int .i64 n) 3 (agg3 w) rfl
  have p3 := part_at w #[.int .i64 k, .string t, .int .i64 n, .int .i64 p] 3 (.int .i64 p) 3 (agg3 w) rfl
  have q0 := part_at w #[.int .i64 k', .string t', .int .i64 n', .int .i64 p'] 0 (.int .i64 k') 3 (agg3 w) rfl
  have q1 := part_at w #[.int .i64 k', .string t', .int .i64 n', .int .i64 p'] 1 (.string t') 9 (agg9 w) rfl
  have q2 := part_at w #[.int .i64 k', .string t', .int .i64 n', .int .i64 p'] 2 (.int .i64 n') 3 (agg3 w) rfl
  have q3 := part_at w #[.int .i64 k', .string t', .int .i64 n', .int .i64 p'] 3 (.int .i64 p') 3 (agg3 w) rfl
  have e0 := run_equalIn_int (P := Tryz.prog) w 9998 3 .i64 .i64 k k' Tryz.underlying3
  have e1 := run_equalIn_string (P := Tryz.prog) w 9998 9 t t' Tryz.underlying9
  have e2 := run_equalIn_int (P := Tryz.prog) w 9998 3 .i64 .i64 n n' Tryz.underlying3
  have e3 := run_equalIn_int (P := Tryz.prog) w 9998 3 .i64 .i64 p p' Tryz.underlying3
  generalize #[Value.int .i64 k, Value.string t, Value.int .i64 n, Value.int .i64 p] = A at *
  generalize #[Value.int .i64 k', Value.string t', Value.int .i64 n', Value.int .i64 p'] = B at *
  unfold sameT
  simp only [Op.eqFields, a0, a1, a2, b0, b1, b2, c0, c1, c2, d0, d1, d2, Sem.run_bind, Sem.run_ite, p0, p1, p2, p3, q0, q1, q2, q3, e0, e1, e2, e3, Result.andThen_ok]
  cases (k == k') <;> cases (t.toList == t'.toList) <;> cases (n == n') <;> cases (p == p') <;> simp

/-! ### sure -/
theorem lex_step {c : UInt8} {r : List UInt8} {t : Tk} {k : Nat} (h : first (c :: r) = ⟨t, k, 0⟩) (hb : blk c = false) (a : Nat) : lexL (c :: r) a = joinX [t.at_ a] (lexL ((c :: r).drop k) (a + k)) := by
  have := joinX_tok [] hb (by rw [h]) a
  rw [joinX_nil, h] at this
  exact this
def sureS : ByteArray := ⟨#[97, 60, 61, 49, 39, 120, 39, 39, 121, 39]⟩
def sureL : List Tk := [⟨1, ⟨#[97]⟩, 0, 0⟩, ⟨4, ⟨#[60, 61]⟩, 0, 1⟩, ⟨2, ⟨#[]⟩, 1, 3⟩, ⟨3, ⟨#[120, 39, 121]⟩, 0, 4⟩]
theorem sure_lex : lexG (lst sureS) = ⟨sureL, 10, 0⟩ := by
  have hl : lst sureS = [97, 60, 61, 49, 39, 120, 39, 39, 121, 39] := rfl
  rw [lexG, if_neg (by rw [hl]; decide), hl]
  rw [lex_step (t := ⟨1, ⟨#[97]⟩, 0, 0⟩) (k := 1) (by rfl) (by decide), show ([97, 60, 61, 49, 39, 120, 39, 39, 121, 39] : List UInt8).drop 1 = [60, 61, 49, 39, 120, 39, 39, 121, 39] from rfl]
  rw [lex_step (t := ⟨4, ⟨#[60, 61]⟩, 0, 0⟩) (k := 2) (by rfl) (by decide), show ([60, 61, 49, 39, 120, 39, 39, 121, 39] : List UInt8).drop 2 = [49, 39, 120, 39, 39, 121, 39] from rfl]
  rw [lex_step (t := ⟨2, ⟨#[]⟩, 1, 0⟩) (k := 1) (by rfl) (by decide), show ([49, 39, 120, 39, 39, 121, 39] : List UInt8).drop 1 = [39, 120, 39, 39, 121, 39] from rfl]
  rw [lex_step (t := ⟨3, ⟨#[120, 39, 121]⟩, 0, 0⟩) (k := 6) (by rfl) (by decide), show ([39, 120, 39, 39, 121, 39] : List UInt8).drop 6 = [] from rfl]
  rw [lexL_nil]
  rfl
set_option maxRecDepth 100000 in
set_option maxHeartbeats 4000000 in
theorem sure_ (w : World) (hE : Env w) : Calls Tryz.prog 10 #[] w fun e w' => e = .returned (.bool true) ∧ Below w.heap.size w w' := by
  have HL : Hid (Calls Tryz.prog 6 #[.string ⟨#[97, 60, 61, 49, 39, 120, 39, 39, 121, 39]⟩] w fun e w' => ∃ b o c, e = .returned (.tuple #[.slice (some ⟨b, o, none⟩) 4 c, .int .i64 10, .nilIface]) ∧ InT w' b (o + 4) ⟨4, ⟨#[60, 61]⟩, 0, 1⟩ ∧ InT w' b (o + 12) ⟨3, ⟨#[120, 39, 121]⟩, 0, 4⟩ ∧ Below w.heap.size w w') := by
    refine (lex_ sureS w hE).mono ?_
    rintro e w' ⟨a, c, he, hin, _, hb⟩
    rw [sure_lex] at he hin
    obtain ⟨b, o, rfl, h0⟩ := hin 1 (by decide)
    obtain ⟨b', o', e', h1⟩ := hin 3 (by decide)
    simp only [Option.some.injEq, Addr.mk.injEq, and_true] at e'
    obtain ⟨rfl, rfl⟩ := e'
    exact ⟨b, o, c, he, h0, h1, hb⟩
  have hGD := guardT
  have hEQ : ∀ W, (Op.equalIn 10000 46 (.agg #[.int .i64 4, .string ⟨#[60, 61]⟩, .int .i64 0, .int .i64 1]) (.agg #[.int .i64 4, .string ⟨#[60, 61]⟩, .int .i64 0, .int .i64 1])).run Tryz.prog W = .ok true W := fun W => by
    rw [eqT_, sameT_iff.2 rfl]
  clear hE
  go_enter Tryz.func10, Tryz.ntmps10
  go_wp2_with fail
  refine HL.out.mono ?_
  rintro e w1 ⟨b, o, c, rfl, h0, h1, hb⟩
  have HB := Lib.hid hb
  obtain ⟨p0, p1, p2, p3⟩ := h0
  obtain ⟨q0, q1, q2, q3⟩ := h1
  simp only at p0 p1 p2 p3 q1
  have q1' : w1.cell? ⟨b, o + 13, none⟩ = some (.string ⟨#[120, 39, 121]⟩) := q1
  clear hb HL q0 q2 q3 q1
  go_wp2_with fail
  go_ret
  exact ⟨rfl, HB.out⟩
end Go.Proofs.YtfmpnakonffkcaaGreatDoor
