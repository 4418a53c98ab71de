/- tree.takeAt: an element taken out of a node's items, of its children. -/
import Derived.Test.YtagamkahfiackaaVDelI
import Derived.Test.YtagamkahfiackaaVDelP
namespace Go.Proofs.Ytagamkahfiackaa
open Go.RowKit Go.Sort

def itV (x : It) : Value := .agg #[.string x.1, .slice x.2.a x.2.n x.2.c]
/-- A node's items in their row. -/
theorem Store.item {w : World} {M : Nat → Option Nd} {q : Nat} {n : Nd} {I1 I2 : List It} {x : It} (h : Store w M) (hq : M q = some n) (hI : n.its = I1 ++ x :: I2) : ∃ g c, n.iv = .slice (some ⟨g, 0, none⟩) (I1.length + I2.length + 1) c ∧ g < w.heap.size ∧ w.cell? ⟨g, I1.length * 2, none⟩ = some (.string x.1) ∧ w.cell? ⟨g, I1.length * 2 + 1, none⟩ = some (.slice x.2.a x.2.n x.2.c) ∧ w.frozen? ⟨g, I1.length * 2, none⟩ = false ∧ w.frozen? ⟨g, I1.length * 2 + 1, none⟩ = false ∧ c ≤ 9223372036854775807 := by
  have hr := h.its q n hq
  have hl : n.its.length = I1.length + I2.length + 1 := by rw [hI]; simp; omega
  obtain ⟨g, c, cur, e, hg, hnc, hcm, hcs, hx⟩ := row_open hr (by omega)
  rw [hl] at e
  obtain ⟨c1, c2⟩ := cI_get n.its I1.length x (by rw [hI]; simp)
  have get : ∀ j u, (cI n.its)[j]? = some u → w.cell? ⟨g, j, none⟩ = some u := fun j u hj => by
    refine cell_of hg ?_
    rw [← hx, List.getElem?_take] at hj
    split at hj
    · simpa using hj
    · cases hj
  exact ⟨g, c, e, blk_lt hg, get _ _ c1, get _ _ c2, frozen_of hg, frozen_of hg, by unfold maxLen at hcm; omega⟩
theorem Store.kid {w : World} {M : Nat → Option Nd} {q : Nat} {n : Nd} {K1 K2 : List Nat} {p : Nat} (h : Store w M) (hq : M q = some n) (hK : n.ks = K1 ++ p :: K2) : ∃ g c, n.cv = .slice (some ⟨g, 0, none⟩) (K1.length + K2.length + 1) c ∧ g < w.heap.size ∧ w.cell? ⟨g, K1.length, none⟩ = some (pt p) ∧ w.frozen? ⟨g, K1.length, none⟩ = false ∧ c ≤ 9223372036854775807 := by
  have hr := h.ks q n hq
  have hl : n.ks.length = K1.length + K2.length + 1 := by rw [hK]; simp; omega
  obtain ⟨g, c, cur, e, hg, hnc, hcm, hcs, hx⟩ := row_open hr (by omega)
  rw [hl] at e
  have c1 := cP_get n.ks K1.length p (by rw [hK]; simp)
  refine ⟨g, c, e, blk_lt hg, ?_, frozen_of hg, by unfold maxLen at hcm; omega⟩
  refine cell_of hg ?_
  rw [← hx, List.getElem?_take] at c1
  split at c1
  · simpa using c1
  · cases c1
/-- What is left behind an element is taken out. -/
def TookI (w : World) (M : Nat → Option Nd) (q : Nat) (n : Nd) (x : It) (its : List It) (e : Ending) (w' : World) : Prop :=
  ∃ v', e = .returned (itV x) ∧ Store w' (upd M q { n with iv := v', its := its }) ∧ Ext (Own M) (Own (upd M q { n with iv := v', its := its })) w w'
def TookP (w : World) (M : Nat → Option Nd) (q : Nat) (n : Nd) (p : Nat) (ks : List Nat) (e : Ending) (w' : World) : Prop :=
  ∃ v', e = .returned (pt p) ∧ Store w' (upd M q { n with cv := v', ks := ks }) ∧ Ext (Own M) (Own (upd M q { n with cv := v', ks := ks })) w w'
theorem store_sl {w : World} {q o : Nat} {v : Value} {t : TypeId} {a : Option Addr} {n c : Nat} (hc : w.cell? ⟨q, o, none⟩ = some v) (hf : w.frozen? ⟨q, o, none⟩ = false) (hs : (sizeOf t).run Try.prog w = .ok 1 w) : (Instr.storeAt t (.pointer (some ⟨q, o, none⟩)) (.slice a n c)).run Try.prog w = .ok () (w.setCell ⟨q, o, none⟩ (.slice a n c)) := by
  simp only [Instr.storeAt, Instr.sureAddr, Sem.run_bind, Sem.run_pure, Result.andThen]
  simp [storeVar, hs, Value.cells, Result.andThen, storeCells, hc, hf, go_sem]
/-- The blocks that a call has made for itself stay beside a store. -/
theorem Ext.mine {M M' : Nat → Option Nd} {w V V' : World} (h : Store w M) (hx : Ext (Own M) (Own M') V V') {k : Nat} {o : Obj} (hk : w.heap.size ≤ k) (ho : V.heap[k]? = some o) : V'.heap[k]? = some o ∧ ¬ Own M' k := hx.stays ho (h.not_own hk)
theorem Store.far {w : World} {M : Nat → Option Nd} (h : Store w M) {k o : Nat} {v : Value} (hk : ¬ Own M k) : Store (w.setCell ⟨k, o, none⟩ v) M := h.keep fun _ hj => heap_far _ fun e => hk (e ▸ hj)
theorem Ext.far {O O' : Nat → Prop} {w0 w : World} (h : Ext O O' w0 w) {k o : Nat} {v : Value} (hk : w0.heap.size ≤ k) : Ext O O' w0 (w.setCell ⟨k, o, none⟩ v) :=
  ⟨h.os, h.tape, h.output, by rw [size_set]; exact h.size, fun i hi hn => (heap_far _ (by omega)).trans (h.block i hi hn), h.new⟩
/-- Two blocks of a call's own. -/
theorem box2 (w : World) (A B : Obj) : ((w.alloc A).alloc B).heap[w.heap.size]? = some A ∧ ((w.alloc A).alloc B).heap[w.heap.size + 1]? = some B := by
  have hs : (w.alloc A).heap.size = w.heap.size + 1 := by simp
  refine ⟨?_, ?_⟩
  · rw [Below.heap_alloc _ _ _ (by rw [hs]; omega)]
    exact new_blk w A
  · rw [← hs]; exact new_blk _ _
end Go.Proofs.Ytagamkahfiackaa
