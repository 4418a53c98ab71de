/- How columns and tables lie in memory; a row of columns that the call has made. -/
import Derived.Test.YtlgnllnjhpihdaaDoorChecked
import Derived.Test.YtlgnllnjhpihdaaDoorPShelf
import Derived.Test.YtlgnllnjhpihdaaDoorTbMath
import Derived.WalkKit
import Derived.WalkSpells
import Derived.WalkLawsBesides
import Derived.Lib.QuietBelow
import Derived.Lib.Hide
import Derived.Deep.RegionWith
import Derived.Deep.QuietTactic
import Derived.Deep.RegionHeld3
import Derived.LoopN
import Derived.WalkSmall
import Derived.IntWalk
import Derived.Laws.StructEq
import Derived.BigQuiet
import Derived.OwnWalk
import Derived.Deep.AppendLies
namespace Go.Proofs.YtlgnllnjhpihdaaDoor
open Go.RowKit Go.Sort

theorem ret_bool {a b : Bool} (h : a = b) : Ending.returned (.bool a) = .returned (.bool b) := by rw [h]
theorem below_step {W w w' : World} (h : Below W.heap.size W w) (hb : Below w.heap.size w w') : Below W.heap.size W w' := h.trans (hb.mono h.size)
theorem below_stepN {N : Nat} {W w w' : World} (hN : N ≤ W.heap.size) (h : Below N W w) (hb : Below w.heap.size w w') : Below N W w' := h.trans (hb.mono (Nat.le_trans hN h.size))
theorem below_drew (W : World) : Below W.heap.size W W.drew := (Below.refl _ _).drew
theorem below_alloc1 (w : World) (o : Obj) : Below w.heap.size w (w.alloc o) := (Below.refl _ _).alloc (Nat.le_refl _) _
def errV (ty : TypeId) (e : Int) : Value := if e = 0 then .nilIface else .iface ty (.int .i64 e)
def inI (n : Int) : Prop := -9223372036854775808 ≤ n ∧ n ≤ 9223372036854775807
theorem toList_lst (s : ByteArray) : s.toList = lst s := Lib.toList_data s
theorem size_lst (s : ByteArray) : s.size = (lst s).length := Lib.size_eq s
theorem beq_lst (s t : ByteArray) : (s.toList == t.toList) = (lst s == lst t) := by rw [toList_lst, toList_lst]
theorem beq_ne {s t : ByteArray} (h : lst s ≠ lst t) : (s.toList == t.toList) = false := by rw [beq_lst]; simpa using h
theorem beq_swap (s t : List UInt8) : (s == t) = (t == s) := by
  by_cases h : s = t
  · subst h; rfl
  · rw [beq_eq_false_iff_ne.2 h, beq_eq_false_iff_ne.2 (Ne.symm h)]

/-- A column lies there. -/
def InC (w : World) (blk off : Nat) (c : Col) : Prop :=
  w.cell? ⟨blk, off, none⟩ = some (.string c.nm) ∧ w.cell? ⟨blk, off + 1, none⟩ = some (.int .i64 c.k) ∧ w.cell? ⟨blk, off + 2, none⟩ = some (.bool c.key) ∧ w.cell? ⟨blk, off + 3, none⟩ = some (.bool c.nul)
theorem InC.on {w w' : World} {blk off : Nat} {c : Col} (h : InC w blk off c) (hb : Below w.heap.size w w') : InC w' blk off c := by
  obtain ⟨h0, h1, h2, h3⟩ := h
  exact ⟨(hb.cell (block_lt_of_cell h0)).trans h0, (hb.cell (block_lt_of_cell h1)).trans h1, (hb.cell (block_lt_of_cell h2)).trans h2, (hb.cell (block_lt_of_cell h3)).trans h3⟩
theorem inC_new (w : World) (c : Col) (ty : TypeId) : InC (w.alloc (.cells #[.string c.nm, .int .i64 c.k, .bool c.key, .bool c.nul] ty)) w.heap.size 0 c := by
  refine ⟨?_, ?_, ?_, ?_⟩ <;> simp [go_sem]
/-- Columns behind a slice. -/
def ColsIn (w : World) (a : Option Addr) (cs : List Col) : Prop :=
  ∀ i (h : i < cs.length), ∃ b o, a = some ⟨b, o, none⟩ ∧ InC w b (o + i * 4) cs[i]
theorem ColsIn.on {w w' : World} {a : Option Addr} {cs : List Col} (h : ColsIn w a cs) (hb : Below w.heap.size w w') : ColsIn w' a cs := by
  intro i hi
  obtain ⟨b, o, e, h1⟩ := h i hi
  exact ⟨b, o, e, h1.on hb⟩
theorem ColsIn.get {w : World} {a : Option Addr} {cs : List Col} (h : ColsIn w a cs) (i : Nat) (hi : i < cs.length) : ∃ b o, a = some ⟨b, o, none⟩ ∧ ∃ nm k y nl, cs[i] = ⟨nm, k, y, nl⟩ ∧ InC w b (o + i * 4) ⟨nm, k, y, nl⟩ := by
  obtain ⟨b, o, e, h1⟩ := h i hi
  exact ⟨b, o, e, _, _, _, _, rfl, h1⟩
theorem colsIn_nil (w : World) (a : Option Addr) : ColsIn w a [] := fun i hi => by simp at hi
theorem ColsIn.take {w : World} {a : Option Addr} {cs : List Col} (h : ColsIn w a cs) (n : Nat) : ColsIn w a (cs.take n) := by
  intro i hi
  rw [List.length_take] at hi
  obtain ⟨b, o, e, h1⟩ := h i (by omega)
  exact ⟨b, o, e, by rw [List.getElem_take]; exact h1⟩
/-- A table's block. -/
def InT (w : World) (blk : Nat) (nm : ByteArray) (a : Option Addr) (n c : Nat) : Prop :=
  w.cell? ⟨blk, 0, none⟩ = some (.string nm) ∧ w.cell? ⟨blk, 1, none⟩ = some (.slice a n c)
theorem InT.on {w w' : World} {blk : Nat} {nm : ByteArray} {a : Option Addr} {n c : Nat} (h : InT w blk nm a n c) (hb : Below w.heap.size w w') : InT w' blk nm a n c := by
  obtain ⟨h0, h1⟩ := h
  exact ⟨(hb.cell (block_lt_of_cell h0)).trans h0, (hb.cell (block_lt_of_cell h1)).trans h1⟩
theorem inT_new (w : World) (nm : ByteArray) (a : Option Addr) (n c : Nat) (ty : TypeId) : InT (w.alloc (.cells #[.string nm, .slice a n c] ty)) w.heap.size nm a n c := by
  refine ⟨?_, ?_⟩ <;> simp [go_sem]

/-! ### Columns as cells -/
def colCells : List Col → List Value
  | [] => []
  | v :: r => .string v.nm :: .int .i64 v.k :: .bool v.key :: .bool v.nul :: colCells r
theorem colCells_len : ∀ vs, (colCells vs).length = vs.length * 4
  | [] => rfl
  | a :: r => by simp only [colCells, List.length_cons, colCells_len r]; omega
theorem colCells_append : ∀ a b, colCells a ++ colCells b = colCells (a ++ b)
  | [], _ => rfl
  | x :: r, b => by simp only [colCells, List.cons_append, colCells_append r b]
theorem colCells_at : ∀ (vs : List Col) (i : Nat) (h : i < vs.length), (colCells vs)[i * 4]? = some (.string vs[i].nm) ∧ (colCells vs)[i * 4 + 1]? = some (.int .i64 vs[i].k) ∧ (colCells vs)[i * 4 + 2]? = some (.bool vs[i].key) ∧ (colCells vs)[i * 4 + 3]? = some (.bool vs[i].nul)
  | [], i, h => by simp at h
  | a :: r, 0, _ => ⟨rfl, rfl, rfl, rfl⟩
  | a :: r, i + 1, h => by
    obtain ⟨h0, h1, h2, h3⟩ := colCells_at r i (by simpa using h)
    refine ⟨?_, ?_, ?_, ?_⟩
    · rw [show (i + 1) * 4 = i * 4 + 4 by omega]; simp only [colCells, List.getElem?_cons_succ, List.getElem_cons_succ]; exact h0
    · rw [show (i + 1) * 4 + 1 = i * 4 + 1 + 4 by omega]; simp only [colCells, List.getElem?_cons_succ, List.getElem_cons_succ]; exact h1
    · rw [show (i + 1) * 4 + 2 = i * 4 + 2 + 4 by omega]; simp only [colCells, List.getElem?_cons_succ, List.getElem_cons_succ]; exact h2
    · rw [show (i + 1) * 4 + 3 = i * 4 + 3 + 4 by omega]; simp only [colCells, List.getElem?_cons_succ, List.getElem_cons_succ]; exact h3
theorem colCells_one : ∀ (vs : List Col), ∀ u ∈ colCells vs, u.oneCell' = true
  | [], u, h => by simp [colCells] at h
  | a :: r, u, h => by
    simp only [colCells, List.mem_cons] at h
    rcases h with rfl | rfl | rfl | rfl | h
    · rfl
    · rfl
    · rfl
    · rfl
    · exact colCells_one r u h
theorem colNews {w : World} {b o : Nat} {vs : List Col} (h : ColsIn w (some ⟨b, o, none⟩) vs) : ∀ j u, (colCells vs)[j]? = some u → w.cell? ((⟨b, o, none⟩ : Addr).add j) = some u := by
  intro j u hj
  obtain ⟨hlt, _⟩ := List.getElem?_eq_some_iff.1 hj
  rw [colCells_len] at hlt
  have hi : j / 4 < vs.length := by omega
  obtain ⟨b', o', e', h0, h1, h2, h3⟩ := h (j / 4) hi
  simp only [Option.some.injEq, Addr.mk.injEq] at e'
  obtain ⟨rfl, rfl, _⟩ := e'
  obtain ⟨c0, c1, c2, c3⟩ := colCells_at vs (j / 4) hi
  rw [Addr.add_lit]
  rcases (by omega : j = j / 4 * 4 ∨ j = j / 4 * 4 + 1 ∨ j = j / 4 * 4 + 2 ∨ j = j / 4 * 4 + 3) with e | e | e | e
  · rw [e, c0] at hj; rw [e]; exact h0.trans hj
  · rw [e, c1] at hj; rw [e, ← Nat.add_assoc]; exact h1.trans hj
  · rw [e, c2] at hj; rw [e, ← Nat.add_assoc]; exact h2.trans hj
  · rw [e, c3] at hj; rw [e, ← Nat.add_assoc]; exact h3.trans hj
/-- A row of columns that the call has made. -/
def OwnC (w : World) (base : Nat) (v : Value) (vs : List Col) : Prop := w.ownsRow base 55 4 v vs.length (colCells vs)
theorem OwnC.cols {w : World} {base : Nat} {v : Value} {vs : List Col} (h : OwnC w base v vs) : ∃ a c, v = .slice a vs.length c ∧ ColsIn w a vs ∧ (a = none → c = 0) := by
  rcases h.2 with ⟨rfl, h0⟩ | ⟨g, cap, cur, rfl, hb, hg, h1, h2, h3, h4⟩
  · refine ⟨none, 0, by rw [h0], fun i hi => by omega, fun _ => rfl⟩
  · refine ⟨_, cap, rfl, fun i hi => ⟨g, 0, rfl, ?_⟩, fun hh => by cases hh⟩
    obtain ⟨c0, c1, c2, c3⟩ := colCells_at vs i hi
    have k0 := World.ownsRow.cells h (g := g) rfl _ _ c0
    have k1 := World.ownsRow.cells h (g := g) rfl _ _ c1
    have k2 := World.ownsRow.cells h (g := g) rfl _ _ c2
    have k3 := World.ownsRow.cells h (g := g) rfl _ _ c3
    rw [Addr.add_lit] at k0 k1 k2 k3
    exact ⟨k0, by rw [Nat.add_assoc]; exact k1, by rw [Nat.add_assoc]; exact k2, by rw [Nat.add_assoc]; exact k3⟩
theorem OwnC.on {w w' : World} {base : Nat} {v : Value} {xs : List Col} (h : OwnC w base v xs) (hb : Below w.heap.size w w') : OwnC w' base v xs := by
  refine ⟨h.1, ?_⟩
  rcases h.2 with h1 | ⟨g, cap, cur, e, h1, h2, h3, h4, h5, h6⟩
  · exact .inl h1
  · have hlt : g < w.heap.size := by
      rcases Nat.lt_or_ge g w.heap.size with hl | hl
      · exact hl
      · rw [Array.getElem?_eq_none hl] at h2; cases h2
    exact .inr ⟨g, cap, cur, e, h1, (hb.block g hlt).trans h2, h3, h4, h5, h6⟩
theorem ownC_nil (w : World) (base : Nat) : OwnC w base (.slice none 0 0) [] := World.ownsRow_nil w base 55 4
theorem infoC : (Tryd.prog.info? 55).map (fun i => (i.zero, i.size, i.bytes)) = some (some (.agg #[.string ⟨#[]⟩, .int .i64 0, .bool false, .bool false]), 4, 32) := by kernel_rfl
theorem below_growC {N : Nat} {w0 w w' : World} {v : Value} {es : List Col} (hN : N ≤ w0.heap.size) (hb : Below N w0 w) (hown : OwnC w N v es) (hg : w.grownBy w' v.ownBlock) : Below N w0 w' :=
  hb.grown hg (Nat.le_trans hN hb.size) (fun k hk => (World.ownsRow.lt hown k hk).1)
theorem ownC_join {w : World} {base n m : Nat} {v : Value} {xs ys : List Col} (hn : xs.length = n) (hm : ys.length = m) (h : w.ownsRow base 55 4 v (n + m) (colCells xs ++ colCells ys)) : OwnC w base v (xs ++ ys) := by
  subst hn hm
  unfold OwnC
  rw [← colCells_append, List.length_append]
  exact h
theorem one_inC {w : World} {B o : Nat} {c : Col} (h : InC w B o c) : ColsIn w (some ⟨B, o, none⟩) [c] := by
  intro i hi
  simp at hi
  subst hi
  exact ⟨B, o, rfl, by simpa using h⟩
/-- append(row, columns...), at the operation. -/
theorem wp_append_cols (w : World) {o : Oper} {act : Act} {K : Act → World → Prop} {Q : Exit → Act → World → Prop} (s x : Operand)
    (ho : o.op = .call { callee := .builtin .append, args := #[s, x], argTypes := #[22, 22] }) (base : Nat) (v : Value) (es ys : List Col) (hs : act.eval s = v) (hown : OwnC w base v es)
    (b oo m c' : Nat) (hx : act.eval x = .slice (some ⟨b, oo, none⟩) m c') (hm : ys.length = m) (hin : ColsIn w (some ⟨b, oo, none⟩) ys) (hlen : (es.length + ys.length) * 32 ≤ 140737488355328) (hbase : base ≤ w.heap.size)
    (hK : ∀ v' w', OwnC w' base v' (es ++ ys) → w.grownBy w' v.ownBlock → K (act.put o.dst v') w') : o.wp Tryd.prog act w K Q := by
  obtain ⟨i0, hi, hz0, hz1, hz2⟩ := info_parts infoC
  subst hm
  obtain ⟨v', w', hr, h2, h3, _, h5⟩ := run_append_own_at (P := Tryd.prog) w base 22 o.type 55 i0 (.agg #[.string ⟨#[]⟩, .int .i64 0, .bool false, .bool false]) 4 32 Tryd.underlying22 hi hz0 hz1 hz2 rfl (by decide) v es.length (colCells es) hown ⟨b, oo, none⟩ ys.length c' (colCells ys) (colCells_len ys) (colNews hin) (colCells_one ys) (by unfold maxLen; omega) (by omega) hbase
  unfold Oper.wp execOp
  simp only [ho, resolve, invoke, builtin, Sem.run_bind, Sem.run_pure, Result.andThen_ok, List.map_toArray, List.map_cons, List.map_nil, hs, hx, hr]
  exact hK v' w' (ownC_join rfl rfl h2) h3
/-- The same at a plain region's list, all below N staying. -/
theorem wpList_append_cols (N : Nat) (w w0 : World) {ops : Array Oper} {rest : List Oper} {o : Oper} {act : Act} {Q : Exit → Act → World → Prop} (hgd : o.guard = none) (s x : Operand)
    (ho : o.op = .call { callee := .builtin .append, args := #[s, x], argTypes := #[22, 22] }) (v : Value) (es ys : List Col) (hs : act.eval s = v) (hown : OwnC w N v es)
    (b oo m c' : Nat) (hx : act.eval x = .slice (some ⟨b, oo, none⟩) m c') (hm : ys.length = m) (hin : ColsIn w (some ⟨b, oo, none⟩) ys) (hlen : (es.length + ys.length) * 32 ≤ 140737488355328) (hN : N ≤ w0.heap.size) (hb : Below N w0 w)
    (hK : ∀ v' w', OwnC w' N v' (es ++ ys) → Below N w0 w' → wpList Tryd.prog ops Q rest (act.put o.dst v') w') : wpList Tryd.prog ops Q (o :: rest) act w :=
  wpList_plain hgd fun _ hK' => wp_append_cols w s x ho N v es ys hs hown b oo m c' hx hm hin hlen (Nat.le_trans hN hb.size) fun v' w' h1 h2 => hK' _ _ (hK v' w' h1 (below_growC hN hb hown h2))
end Go.Proofs.YtlgnllnjhpihdaaDoor
