/- What the law on catalogs needs: what stays where columns are written over. -/
import Derived.Test.YtlgnllnjhpihdaaDoorTbNew
import Derived.Test.YtlgnllnjhpihdaaDoorTbTwinF
import Derived.Test.YtlgnllnjhpihdaaDoorTbSame
import Derived.Test.YtlgnllnjhpihdaaDoorTbSure
import Derived.Test.YtlgnllnjhpihdaaDoorTbAs
import Derived.Deep.RegionHeld3
namespace Go.Proofs.YtlgnllnjhpihdaaDoor
open Go.RowKit Go.Sort

theorem wpList_store_at {ops : Array Oper} {rest : List Oper} {op : Oper} {a : Act} {w w' : World} {Q : Exit → Act → World → Prop} (hgd : op.guard = none) (ty : TypeId) (x y : Operand) (ho : op.op = .store ty x y)
    (p v : Value) (hx : a.eval x = p) (hy : a.eval y = v) (hr : (Instr.storeAt ty p v).run Tryd.prog w = .ok () w') (h : wpList Tryd.prog ops Q rest (a.put op.dst undef) w') : wpList Tryd.prog ops Q (op :: rest) a w :=
  wpList_plain hgd fun _ hK => by
    unfold Oper.wp execOp
    simp only [ho, hx, hy, hr, Sem.run_bind, Sem.run_pure, Result.andThen_ok]
    exact hK _ _ h
theorem some_set {w : World} {p q : Addr} {v u : Value} (h : w.cell? q = some u) : ∃ u', (w.setCell p v).cell? q = some u' := by
  by_cases e : p = q
  · subst e; exact ⟨v, by first | exact World.cell?_setCell_same _ _ _ h | exact World.cell?_setCell_same _ _ h | exact World.cell?_setCell_same _ h⟩
  · exact ⟨u, by rw [World.cell?_setCell_other _ _ _ _ e]; exact h⟩
theorem TabsIn.set {w : World} {a : Option Addr} {ts : List TV} {B o : Nat} {u : Value} (h : TabsIn w a ts) (hB : ∀ b o', a = some ⟨b, o', none⟩ → b ≠ B) : TabsIn (w.setCell ⟨B, o, none⟩ u) a ts := by
  intro i hi
  obtain ⟨b, o', e, h0, h1⟩ := h i hi
  exact ⟨b, o', e, (cell_other (hB b o' e)).trans h0, (cell_other (hB b o' e)).trans h1⟩
theorem CatIn.set {w : World} {N BC B o : Nat} {ts : List TV} {u : Value} (h : CatIn w N BC ts) (hB : B < N) : CatIn (w.setCell ⟨B, o, none⟩ u) N BC ts := by
  obtain ⟨a, c, h1, h2, h3⟩ := h.row
  have hx := h.at_
  exact ⟨h.len, h.at_, ⟨a, c, (cell_other (by show BC ≠ B; omega)).trans h1, h2.set (fun b o' e => by have := h3 b o' e; omega), h3⟩, fun i hi => ⟨(h.cols i hi).1.set (fun b o' e => by have := h.far i hi b o' e; omega), (h.cols i hi).2⟩, h.far⟩
/-- The first letters of the first columns' names may be written over. -/
def StrAll (w : World) (us : List TV) : Prop := ∀ i (h : i < us.length), us[i].cs ≠ [] → ∃ b o x, us[i].a = some ⟨b, o, none⟩ ∧ w.cell? ⟨b, o, none⟩ = some (.string x) ∧ w.frozen? ⟨b, o, none⟩ = false
theorem StrAll.on {w w' : World} {us : List TV} (h : StrAll w us) (hb : Below w.heap.size w w') : StrAll w' us := fun i hi hne => by
  obtain ⟨b, o, x, e, h1, h2⟩ := h i hi hne
  exact ⟨b, o, x, e, (hb.cell (block_lt_of_cell h1)).trans h1, Frz.on h2 (block_lt_of_cell h1) hb⟩
theorem StrAll.set {w : World} {us : List TV} (h : StrAll w us) (p : Addr) (s : ByteArray) : StrAll (w.setCell p (.string s)) us := fun i hi hne => by
  obtain ⟨b, o, x, e, h1, h2⟩ := h i hi hne
  by_cases hp : p = ⟨b, o, none⟩
  · subst hp
    exact ⟨b, o, s, e, by first | exact World.cell?_setCell_same _ _ _ h1 | exact World.cell?_setCell_same _ _ h1 | exact World.cell?_setCell_same _ h1, by rw [World.frozen?_setCell]; exact h2⟩
  · exact ⟨b, o, x, e, by rw [World.cell?_setCell_other _ _ _ _ hp]; exact h1, by rw [World.frozen?_setCell]; exact h2⟩
def FreeAll (w : World) (us : List TV) : Prop := ∀ i (h : i < us.length), us[i].cs ≠ [] → Free w us[i].a
theorem FreeAll.on {w w' : World} {us : List TV} (h : FreeAll w us) (hb : Below w.heap.size w w') : FreeAll w' us := fun i hi hne => (h i hi hne).on hb
theorem strAll_of {w : World} {us : List TV} (hc : ColsAll w us) (hf : FreeAll w us) : StrAll w us := fun i hi hne => by
  obtain ⟨b, o, e, h1, _⟩ := (hc i hi).1 0 (List.length_pos_iff.2 hne)
  exact ⟨b, o, _, e, by simpa using h1, (hf i hi hne b o e).2 o⟩
/-- A row of tables grows: what may be written over stays so. -/
theorem FreeAll.more {N : Nat} {v : Value} {us : List TV} {U V3 : World} {x : TV} (h : FreeAll U us) (hr : Rw N v us U) (hx : Free U x.a) (hxr : ∀ b o, x.a = some ⟨b, o, none⟩ → ∀ k, v.ownBlock = some k → k < b) (hg : U.grownBy V3 v.ownBlock) : FreeAll V3 (us ++ [x]) := by
  have one : ∀ a : Option Addr, Free U a → (∀ b o, a = some ⟨b, o, none⟩ → v.ownBlock ≠ some b) → Free V3 a := fun a ha hne b o e => by
    obtain ⟨h1, h2⟩ := ha b o e
    have hblk : V3.heap[b]? = U.heap[b]? := hg.block b h1 (fun e2 => hne b o e e2.symm)
    exact ⟨Nat.lt_of_lt_of_le h1 hg.size, fun p => (World.frozen?_of_block (w := U) (a := ⟨b, p, none⟩) hblk).trans (h2 p)⟩
  intro i hi hne
  rcases Nat.lt_or_ge i us.length with hl | hl
  · simp only [List.getElem_append_left hl] at hne ⊢
    exact one _ (h i hl hne) (fun b o e => hr.apart i hl b o e hne)
  · have hi2 : i = us.length := by simp at hi; omega
    subst hi2
    simp only [List.getElem_append_right (Nat.le_refl _), Nat.sub_self, List.getElem_cons_zero]
    exact one _ hx (fun b o e e2 => by have := hxr b o e b e2; omega)
/-- Cells of columns that may be written over. -/
def CellsIn (w : World) (b o M : Nat) : Prop := ∀ q, q < M → (∃ u, w.cell? ⟨b, o + q * 4, none⟩ = some u) ∧ (∃ u, w.cell? ⟨b, o + q * 4 + 1, none⟩ = some u) ∧ (∃ u, w.cell? ⟨b, o + q * 4 + 2, none⟩ = some u) ∧ (∃ u, w.cell? ⟨b, o + q * 4 + 3, none⟩ = some u)
theorem CellsIn.set {w : World} {b o M : Nat} {p : Addr} {v : Value} (h : CellsIn w b o M) : CellsIn (w.setCell p v) b o M := fun q hq => by
  obtain ⟨⟨u0, h0⟩, ⟨u1, h1⟩, ⟨u2, h2⟩, ⟨u3, h3⟩⟩ := h q hq
  exact ⟨some_set h0, some_set h1, some_set h2, some_set h3⟩
theorem CellsIn.on {w w' : World} {b o M : Nat} (h : CellsIn w b o M) (hb : Below w.heap.size w w') : CellsIn w' b o M := fun q hq => by
  obtain ⟨⟨u0, h0⟩, ⟨u1, h1⟩, ⟨u2, h2⟩, ⟨u3, h3⟩⟩ := h q hq
  exact ⟨⟨u0, (hb.cell (block_lt_of_cell h0)).trans h0⟩, ⟨u1, (hb.cell (block_lt_of_cell h1)).trans h1⟩, ⟨u2, (hb.cell (block_lt_of_cell h2)).trans h2⟩, ⟨u3, (hb.cell (block_lt_of_cell h3)).trans h3⟩⟩
theorem cellsIn_of {w : World} {b o : Nat} {cs : List Col} (h : ColsIn w (some ⟨b, o, none⟩) cs) : CellsIn w b o cs.length := fun q hq => by
  obtain ⟨b', o', e, h0, h1, h2, h3⟩ := h q hq
  simp only [Option.some.injEq, Addr.mk.injEq, and_true] at e
  obtain ⟨rfl, rfl⟩ := e
  exact ⟨⟨_, h0⟩, ⟨_, h1⟩, ⟨_, h2⟩, ⟨_, h3⟩⟩
theorem store_col {w : World} {g o : Nat} {x0 x1 x2 x3 : Value} (h0 : x0.oneCell' = true) (h1 : x1.oneCell' = true) (h2 : x2.oneCell' = true) (h3 : x3.oneCell' = true)
    (c0 : ∃ u, w.cell? ⟨g, o, none⟩ = some u) (c1 : ∃ u, w.cell? ⟨g, o + 1, none⟩ = some u) (c2 : ∃ u, w.cell? ⟨g, o + 2, none⟩ = some u) (c3 : ∃ u, w.cell? ⟨g, o + 3, none⟩ = some u) (hf : ∀ p, w.frozen? ⟨g, p, none⟩ = false) :
    (Instr.storeAt 55 (.pointer (some ⟨g, o, none⟩)) (.agg #[x0, x1, x2, x3])).run Tryd.prog w = .ok () ((((w.setCell ⟨g, o, none⟩ x0).setCell ⟨g, o + 1, none⟩ x1).setCell ⟨g, o + 2, none⟩ x2).setCell ⟨g, o + 3, none⟩ x3) := by
  obtain ⟨u0, c0⟩ := c0
  obtain ⟨u1, c1⟩ := c1
  obtain ⟨u2, c2⟩ := c2
  obtain ⟨u3, c3⟩ := c3
  have hs : (sizeOf 55).run Tryd.prog w = .ok 4 w := by kernel_rfl
  have ne : ∀ {p q : Nat}, p ≠ q → (⟨g, p, none⟩ : Addr) ≠ ⟨g, q, none⟩ := fun h e => h (Addr.mk.inj e).2.1
  have d1 : (w.setCell ⟨g, o, none⟩ x0).cell? ⟨g, o + 1, none⟩ = some u1 := by rw [World.cell?_setCell_other _ _ _ _ (ne (by omega))]; exact c1
  have d2 : ((w.setCell ⟨g, o, none⟩ x0).setCell ⟨g, o + 1, none⟩ x1).cell? ⟨g, o + 2, none⟩ = some u2 := by rw [World.cell?_setCell_other _ _ _ _ (ne (by omega)), World.cell?_setCell_other _ _ _ _ (ne (by omega))]; exact c2
  have d3 : (((w.setCell ⟨g, o, none⟩ x0).setCell ⟨g, o + 1, none⟩ x1).setCell ⟨g, o + 2, none⟩ x2).cell? ⟨g, o + 3, none⟩ = some u3 := by rw [World.cell?_setCell_other _ _ _ _ (ne (by omega)), World.cell?_setCell_other _ _ _ _ (ne (by omega)), World.cell?_setCell_other _ _ _ _ (ne (by omega))]; exact c3
  have f0 := hf o
  have f1 := hf (o + 1)
  have f2 := hf (o + 2)
  have f3 := hf (o + 3)
  simp only [Instr.storeAt, Instr.sureAddr, Sem.run_bind, Sem.run_pure, Result.andThen]
  simp [storeVar, hs, Value.cells, Result.andThen, storeCells, run_store _ _ _ _ _ h0, run_store _ _ _ _ _ h1, run_store _ _ _ _ _ h2, run_store _ _ _ _ _ h3, Addr.add_lit, c0, d1, d2, d3, f0, f1, f2, f3]
theorem tabI_same {ts us : List TV} (h : us.map TV.tab = ts.map TV.tab) (name : ByteArray) : tabI name us = tabI name ts ∧ tabX name us = tabX name ts := by
  have e : ∀ l : List TV, idxP (isNT name) l = idxP (fun t : Tab => lst t.nm == lst name) (l.map TV.tab) := fun l => by
    unfold idxP
    rw [List.findIdx?_map]
    rfl
  have : idxP (isNT name) us = idxP (isNT name) ts := by rw [e, e, h]
  exact ⟨by rw [tabI, tabI, this], by rw [tabX, tabX, this]⟩
theorem tab_get {ts us : List TV} (h : us.map TV.tab = ts.map TV.tab) : us.length = ts.length ∧ ∀ k (h1 : k < us.length) (h2 : k < ts.length), us[k].nm = ts[k].nm ∧ us[k].cs = ts[k].cs := by
  have hl : us.length = ts.length := by have := congrArg List.length h; simpa using this
  refine ⟨hl, fun k h1 h2 => ?_⟩
  have : (us.map TV.tab)[k]? = (ts.map TV.tab)[k]? := by rw [h]
  rw [List.getElem?_map, List.getElem?_map, List.getElem?_eq_getElem h1, List.getElem?_eq_getElem h2] at this
  simp only [Option.map_some, Option.some.injEq] at this
  exact ⟨congrArg Tab.nm this, congrArg Tab.cs this⟩
end Go.Proofs.YtlgnllnjhpihdaaDoor
