/- Blocks of one's own that hold a table or a column and may be written; small things of a region that draws its order. -/
import Derived.Test.YtlgnllnjhpihdaaDoorTbText
import Derived.Test.YtlgnllnjhpihdaaDoorTbPh
namespace Go.Proofs.YtlgnllnjhpihdaaDoor
open Go.RowKit Go.Sort

theorem Frz.on {w w' : World} {blk off : Nat} (h : w.frozen? ⟨blk, off, none⟩ = false) (hl : blk < w.heap.size) (hb : Below w.heap.size w w') : w'.frozen? ⟨blk, off, none⟩ = false := (hb.frozen (p := ⟨blk, off, none⟩) hl).trans h
/-- A table's block that may be written. -/
def TbB (V : World) (B : Nat) (nm : ByteArray) (lv : Value) : Prop :=
  V.cell? ⟨B, 0, none⟩ = some (.string nm) ∧ V.cell? ⟨B, 1, none⟩ = some lv ∧ V.frozen? ⟨B, 0, none⟩ = false ∧ V.frozen? ⟨B, 1, none⟩ = false
theorem TbB.lt {V : World} {B : Nat} {nm : ByteArray} {lv : Value} (h : TbB V B nm lv) : B < V.heap.size := block_lt_of_cell h.1
theorem TbB.on {V V' : World} {B : Nat} {nm : ByteArray} {lv : Value} (h : TbB V B nm lv) (hb : Below V.heap.size V V') : TbB V' B nm lv := by
  have hl := h.lt
  obtain ⟨h0, h1, f0, f1⟩ := h
  exact ⟨(hb.cell hl).trans h0, (hb.cell hl).trans h1, Frz.on f0 hl hb, Frz.on f1 hl hb⟩
theorem TbB.grown {V V' : World} {B : Nat} {nm : ByteArray} {lv : Value} {row : Option Nat} (h : TbB V B nm lv) (hg : V.grownBy V' row) (hr : ∀ k, row = some k → B < k) : TbB V' B nm lv := by
  have hl := h.lt
  have hb : Below (B + 1) V V' := (Below.refl _ _).grown hg hl hr
  obtain ⟨h0, h1, f0, f1⟩ := h
  exact ⟨(hb.cell (Nat.lt_succ_self B)).trans h0, (hb.cell (Nat.lt_succ_self B)).trans h1, (hb.frozen (p := ⟨B, 0, none⟩) (Nat.lt_succ_self B)).trans f0, (hb.frozen (p := ⟨B, 1, none⟩) (Nat.lt_succ_self B)).trans f1⟩
theorem tbB_new (w : World) (nm : ByteArray) (a : Option Addr) (n c : Nat) (ty : TypeId) : TbB (w.alloc (.cells #[.string nm, .slice a n c] ty)) w.heap.size nm (.slice a n c) := by
  refine ⟨?_, ?_, ?_, ?_⟩ <;> simp [go_sem]
theorem TbB.tab {V : World} {B : Nat} {nm : ByteArray} {a : Option Addr} {n c : Nat} (h : TbB V B nm (.slice a n c)) : InT V B nm a n c := ⟨h.1, h.2.1⟩
theorem tbB_set {V : World} {B : Nat} {nm : ByteArray} {lv : Value} (h : TbB V B nm lv) (v : Value) : TbB (V.setCell ⟨B, 1, none⟩ v) B nm v := by
  obtain ⟨h0, h1, f0, f1⟩ := h
  refine ⟨?_, ?_, ?_, ?_⟩
  · simp [go_sem, h0]
  · simp [go_sem, h1]
  · simp [go_sem, f0]
  · simp [go_sem, f1]
theorem store_sl {w : World} {q o : Nat} {v : Value} {t : TypeId} {a : Option Addr} {n c : Nat} (hc : w.cell? ⟨q, o, none⟩ = some v) (hf : w.frozen? ⟨q, o, none⟩ = false) (hs : (sizeOf t).run Tryd.prog w = .ok 1 w) : (Instr.storeAt t (.pointer (some ⟨q, o, none⟩)) (.slice a n c)).run Tryd.prog w = .ok () (w.setCell ⟨q, o, none⟩ (.slice a n c)) := by
  simp only [Instr.storeAt, Instr.sureAddr, Sem.run_bind, Sem.run_pure, Result.andThen]
  simp [storeVar, hs, Value.cells, Result.andThen, storeCells, hc, hf, go_sem]
theorem store_cols {w : World} {q : Nat} {nm : ByteArray} {lv : Value} {a : Option Addr} {n c : Nat} (h : TbB w q nm lv) : (Instr.storeAt 22 (.pointer (some ⟨q, 1, none⟩)) (.slice a n c)).run Tryd.prog w = .ok () (w.setCell ⟨q, 1, none⟩ (.slice a n c)) :=
  store_sl h.2.1 h.2.2.2 (by kernel_rfl)
theorem exec_append {P : Program} {w w' : World} {a : Act} {o : Oper} {s x : Operand} {t : TypeId} {vs vx v' : Value} (ho : o.op = .call { callee := .builtin .append, args := #[s, x], argTypes := #[t, t] }) (hs : a.eval s = vs) (hx : a.eval x = vx) (hr : (Builtin.append_ #[t, t] o.type #[vs, vx]).run P w = .ok v' w') : (execOp a.eval o).run P w = .ok (.value v') w' := by
  unfold execOp
  simp only [ho, resolve, invoke, builtin, Sem.run_bind, Sem.run_pure, Result.andThen_ok, List.map_toArray, List.map_cons, List.map_nil, hs, hx, hr]
theorem run_buildC (w : World) (x : Col) (a : Act) (o : Oper) (y : Operand) (h : o.op = .buildSlice 22 1 #[(0, y)]) (hy : a.eval y = agC x) : (execOp a.eval o).run Tryd.prog w = .ok (.value (.slice (some ⟨w.heap.size, 0, none⟩) 1 1)) (w.alloc (.cells #[.string x.nm, .int .i64 x.k, .bool x.key, .bool x.nul] 55)) := by
  unfold execOp
  simp only [h, List.map_toArray, List.map_cons, List.map_nil, hy]
  simp [Instr.buildSlice, go_sem, agC]
/-- append(row, a column), as a run. -/
theorem app_col {w : World} {base : Nat} {v : Value} {es : List Col} (hown : OwnC w base v es) (t : TypeId) {B : Nat} {x : Col} (hin : InC w B 0 x) (hlen : (es.length + 1) * 32 ≤ 140737488355328) (hbase : base ≤ w.heap.size) :
    ∃ a n c w', (Builtin.append_ #[22, 22] t #[v, .slice (some ⟨B, 0, none⟩) 1 1]).run Tryd.prog w = .ok (.slice a n c) w' ∧ OwnC w' base (.slice a n c) (es ++ [x]) ∧ w.grownBy w' v.ownBlock := by
  obtain ⟨i0, hi, hz0, hz1, hz2⟩ := info_parts infoC
  obtain ⟨v', w', hr, h2, h3, _, h5⟩ := run_append_own_at (P := Tryd.prog) w base 22 t 55 i0 (.agg #[.string ⟨#[]⟩, .int .i64 0, .bool false, .bool false]) 4 32 Tryd.underlying22 hi hz0 hz1 hz2 rfl (by decide) v es.length (colCells es) hown ⟨B, 0, none⟩ 1 1 (colCells [x]) (colCells_len [x]) (colNews (one_inC hin)) (colCells_one [x]) (by unfold maxLen; omega) (by omega) hbase
  have ho : OwnC w' base v' (es ++ [x]) := ownC_join rfl rfl h2
  obtain ⟨a, c, rfl, _, _⟩ := ho.cols
  exact ⟨a, _, c, w', hr, ho, h3⟩
end Go.Proofs.YtlgnllnjhpihdaaDoor
