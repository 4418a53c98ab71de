/- How columns and tables lie in memory. -/
import Derived.Test.YtlldamgnfaikhaaDoorRwMath
import Derived.Test.YtlldamgnfaikhaaDoorOEnc
namespace Go.Proofs.YtlldamgnfaikhaaDoor
open Go.RowKit Go.Sort

/-- A column lies there. -/
def InC (w : World) (blk off : Nat) (c : Col) : Prop :=
  w.cell? ⟨blk, off, none⟩ = some (.string c.nm) ∧ w.cell? ⟨blk, off + 1, none⟩ = some (.int .i64 c.k) ∧ w.cell? ⟨blk, off + 2, none⟩ = some (.bool c.key) ∧ w.cell? ⟨blk, off + 3, none⟩ = some (.bool c.nul)
theorem InC.on {w w' : World} {blk off : Nat} {c : Col} (h : InC w blk off c) (hb : Below w.heap.size w w') : InC w' blk off c := by
  obtain ⟨h0, h1, h2, h3⟩ := h
  exact ⟨(hb.cell (block_lt_of_cell h0)).trans h0, (hb.cell (block_lt_of_cell h1)).trans h1, (hb.cell (block_lt_of_cell h2)).trans h2, (hb.cell (block_lt_of_cell h3)).trans h3⟩
theorem inC_new (w : World) (c : Col) (ty : TypeId) : InC (w.alloc (.cells #[.string c.nm, .int .i64 c.k, .bool c.key, .bool c.nul] ty)) w.heap.size 0 c := by
  refine ⟨?_, ?_, ?_, ?_⟩ <;> simp [go_sem]
/-- Columns behind a slice. -/
def ColsIn (w : World) (a : Option Addr) (cs : List Col) : Prop :=
  ∀ i (h : i < cs.length), ∃ b o, a = some ⟨b, o, none⟩ ∧ InC w b (o + i * 4) cs[i]
theorem ColsIn.on {w w' : World} {a : Option Addr} {cs : List Col} (h : ColsIn w a cs) (hb : Below w.heap.size w w') : ColsIn w' a cs := by
  intro i hi
  obtain ⟨b, o, e, h1⟩ := h i hi
  exact ⟨b, o, e, h1.on hb⟩
theorem ColsIn.get {w : World} {a : Option Addr} {cs : List Col} (h : ColsIn w a cs) (i : Nat) (hi : i < cs.length) : ∃ b o, a = some ⟨b, o, none⟩ ∧ ∃ nm k y nl, cs[i] = ⟨nm, k, y, nl⟩ ∧ InC w b (o + i * 4) ⟨nm, k, y, nl⟩ := by
  obtain ⟨b, o, e, h1⟩ := h i hi
  exact ⟨b, o, e, _, _, _, _, rfl, h1⟩
theorem colsIn_nil (w : World) (a : Option Addr) : ColsIn w a [] := fun i hi => by simp at hi
/-- A column, a table as it is handed on. -/
def agC (c : Col) : Value := .agg #[.string c.nm, .int .i64 c.k, .bool c.key, .bool c.nul]
/-- A table's block. -/
def InT (w : World) (blk : Nat) (nm : ByteArray) (a : Option Addr) (n c : Nat) : Prop :=
  w.cell? ⟨blk, 0, none⟩ = some (.string nm) ∧ w.cell? ⟨blk, 1, none⟩ = some (.slice a n c)
theorem InT.on {w w' : World} {blk : Nat} {nm : ByteArray} {a : Option Addr} {n c : Nat} (h : InT w blk nm a n c) (hb : Below w.heap.size w w') : InT w' blk nm a n c := by
  obtain ⟨h0, h1⟩ := h
  exact ⟨(hb.cell (block_lt_of_cell h0)).trans h0, (hb.cell (block_lt_of_cell h1)).trans h1⟩
theorem inT_new (w : World) (nm : ByteArray) (a : Option Addr) (n c : Nat) (ty : TypeId) : InT (w.alloc (.cells #[.string nm, .slice a n c] ty)) w.heap.size nm a n c := by
  refine ⟨?_, ?_⟩ <;> simp [go_sem]
theorem below_alloc1 (w : World) (o : Obj) : Below w.heap.size w (w.alloc o) := (Below.refl _ _).alloc (Nat.le_refl _) _
end Go.Proofs.YtlldamgnfaikhaaDoor
