/- A function is not nil; What the law CursorGoes keeps in memory between its loops. -/
import Derived.Test.YteeojhmdefhlmaaVMem
import Derived.Test.YteeojhmdefhlmaaCuGrown
import Derived.Test.YteeojhmdefhlmaaCuCount
import Derived.Test.YteeojhmdefhlmaaJBk
import Derived.Test.YteeojhmdefhlmaaJRf
import Derived.Test.YteeojhmdefhlmaaCuSure
namespace Go.Proofs.Yteeojhmdefhlmaa
open Go.RowKit Go.Sort

set_option maxRecDepth 100000 in
theorem func_nil (W : World) (f : Nat) (lb : Array Value) : (binOp BinOp.eql 44 (.func (.func f) #[] lb) .nilFunc).run Try.prog W = .ok (.bool false) W := by
  rfl
end Go.Proofs.Yteeojhmdefhlmaa

namespace Go.Proofs.Yteeojhmdefhlmaa
open Go.RowKit Go.Sort Go.Shelf

theorem allB_ (p : Nat) (r : Rg) (W : World) : Calls Try.prog 21 #[.pointer (some ⟨p, 0, none⟩), rgV r] W fun e w' => ∃ bt br, e = .returned (.func (.func 37) #[] #[.pointer (some ⟨bt, 0, none⟩), .pointer (some ⟨br, 0, none⟩)]) ∧ Below W.heap.size W w' ∧ Hid (w'.heap[bt]? = some (.cells #[.pointer (some ⟨p, 0, none⟩)] 38 (0, 0)) ∧ w'.heap[br]? = some (.cells #[.string r.f, .string r.t, .bool r.hf, .bool r.ht, .bool r.pf, .bool r.pt] 24 (0, 0))) :=
  (all_ p r W).mono fun e w' ⟨e1, e2⟩ => ⟨_, _, e1, by rw [e2]; exact below_two W _ _, by rw [e2]; exact ⟨blkKeep (below_alloc _ _) (new_blk W _), two_alloc W _ _⟩⟩
theorem backB_ (p : Nat) (r : Rg) (W : World) : Calls Try.prog 22 #[.pointer (some ⟨p, 0, none⟩), rgV r] W fun e w' => ∃ bt br, e = .returned (.func (.func 40) #[] #[.pointer (some ⟨bt, 0, none⟩), .pointer (some ⟨br, 0, none⟩)]) ∧ Below W.heap.size W w' ∧ Hid (w'.heap[bt]? = some (.cells #[.pointer (some ⟨p, 0, none⟩)] 38 (0, 0)) ∧ w'.heap[br]? = some (.cells #[.string r.f, .string r.t, .bool r.hf, .bool r.ht, .bool r.pf, .bool r.pt] 24 (0, 0))) :=
  (back_ p r W).mono fun e w' ⟨e1, e2⟩ => ⟨_, _, e1, by rw [e2]; exact below_two W _ _, by rw [e2]; exact ⟨blkKeep (below_alloc _ _) (new_blk W _), two_alloc W _ _⟩⟩
/-- All that lies there ahead of the first loop. -/
structure Gs (W : World) (M : Nat → Option Nd) (p : Nat) (l : List It) (F : Nat → Prop) (r : Rg) (rb xb wb bt br bt2 br2 : Nat) (aw : Option Addr) (cw : Nat) : Prop where
  hrb : Boxed W rb 4 (.bool false)
  hxb : W.heap[xb]? = some (.cells #[.string r.f, .string r.t, .bool r.hf, .bool r.ht, .bool r.pf, .bool r.pt] 24 (0, 0))
  hwb : Boxed W wb 39 (.slice aw (selR r l).length cw)
  row : RowR W 0 (.slice aw (selR r l).length cw) (selR r l)
  t1 : Tr W M p l F bt br r
  t2 : Tr W M p l F bt2 br2 r
theorem Gs.on {W W' : World} {M : Nat → Option Nd} {p : Nat} {l : List It} {F : Nat → Prop} {r : Rg} {rb xb wb bt br bt2 br2 : Nat} {aw : Option Addr} {cw : Nat} (h : Gs W M p l F r rb xb wb bt br bt2 br2 aw cw) (hb : Below W.heap.size W W') : Gs W' M p l F r rb xb wb bt br bt2 br2 aw cw :=
  ⟨blkKeep hb h.hrb, blkKeep hb h.hxb, blkKeep hb h.hwb, row_on h.row hb, h.t1.on hb, h.t2.on hb⟩
theorem Gs.xc {W : World} {M : Nat → Option Nd} {p : Nat} {l : List It} {F : Nat → Prop} {r : Rg} {rb xb wb bt br bt2 br2 : Nat} {aw : Option Addr} {cw : Nat} (h : Gs W M p l F r rb xb wb bt br bt2 br2 aw cw) : RgAt W xb r :=
  ⟨cell_of h.hxb rfl, cell_of h.hxb rfl, cell_of h.hxb rfl, cell_of h.hxb rfl, cell_of h.hxb rfl, cell_of h.hxb rfl⟩
/-- A pair of the list that is wanted. -/
theorem Gs.item {W : World} {M : Nat → Option Nd} {p : Nat} {l : List It} {F : Nat → Prop} {r : Rg} {rb xb wb bt br bt2 br2 : Nat} {aw : Option Addr} {cw : Nat} (h : Gs W M p l F r rb xb wb bt br bt2 br2 aw cw) {j : Nat} {y : It} (hj : (selR r l)[j]? = some y) : ∃ g, aw = some ⟨g, 0, none⟩ ∧ W.cell? ⟨g, j * 2, none⟩ = some (.string y.1) ∧ W.cell? ⟨g, j * 2 + 1, none⟩ = some (.string y.2) := by
  obtain ⟨a, c, e, _, hat⟩ := h.row.items
  simp only [Value.slice.injEq] at e
  obtain ⟨rfl, _, rfl⟩ := e
  obtain ⟨g, e1, _, h3, h4⟩ := hat j y hj
  exact ⟨g, e1, h3, h4⟩
theorem fold2 (i j : Nat) (u v : Value) (t : Array Value) : (#[i, j].zip #[u, v]).foldl (fun t (p, v) => t.setIfInBounds p v) t = (t.setIfInBounds i u).setIfInBounds j v := by simp
theorem pre_at {s pre : List It} {x : It} (h : pre <+: s) : (pre ++ [x]) <+: s ↔ s[pre.length]? = some x := by
  obtain ⟨q, rfl⟩ := h
  constructor
  · rintro ⟨q2, e⟩
    rw [List.append_assoc] at e
    have := List.append_cancel_left e
    rw [← this]
    simp
  · intro e
    rw [List.getElem?_append_right (Nat.le_refl _), Nat.sub_self] at e
    cases q with
    | nil => cases e
    | cons a q => simp at e; subst e; exact ⟨q, by simp⟩
theorem most_of (st : Int) : ∃ most : Nat, most ≤ 4 ∧ wrap64 ((IntKind.u64.wrap st).tmod 5) = (most : Int) := by
  have h0 : 0 ≤ IntKind.u64.wrap st := Int.emod_nonneg _ (by decide)
  have h1 : (IntKind.u64.wrap st).tmod 5 = (IntKind.u64.wrap st) % 5 := Int.tmod_eq_emod_of_nonneg h0
  refine ⟨((IntKind.u64.wrap st) % 5).toNat, by omega, ?_⟩
  rw [h1]
  have h2 : 0 ≤ (IntKind.u64.wrap st) % 5 ∧ (IntKind.u64.wrap st) % 5 < 5 := ⟨by omega, by omega⟩
  generalize (IntKind.u64.wrap st) % 5 = z at *
  unfold wrap64
  omega
theorem store_box {W : World} {b : Nat} {v : Bool} (h : Boxed W b 4 (.bool v)) (u : Bool) : (Instr.storeAt 4 (.pointer (some ⟨b, 0, none⟩)) (.bool u)).run Try.prog W = .ok () (W.setCell ⟨b, 0, none⟩ (.bool u)) := by
  have hs : (sizeOf 4).run Try.prog W = .ok 1 W := by kernel_rfl
  simp only [Instr.storeAt, Instr.sureAddr, Sem.run_bind, Sem.run_pure, Result.andThen]
  simp [storeVar, hs, Value.cells, Result.andThen, storeCells, h.cell, h.frozen, go_sem]
theorem below_putObj {N : Nat} {W V : World} {D : Nat} {o : Obj} (h : Below N W V) (hN : N ≤ V.heap.size) (hD : N ≤ D) : Below N W (V.putObj D o) := h.grown (grownBy_putObj' V D o) hN (fun k e => by cases e; exact hD)
/-- The end of the law: three loops' marks are taken off, and what lies where its result lies is handed back. -/
theorem goes_end {w V : World} {n D1 D2 D3 : Nat} {a : Act} (hn : w.heap.size = n) (h1 : V.heap[D1]? = some (.deferred (some []))) (h2 : V.heap[D2]? = some (.deferred (some []))) (h3 : V.heap[D3]? = some (.deferred (some []))) (hb : Boxed V (n + 1) 4 (.bool true)) (hB : Below n w V)
    (l1 : n + 1 < D1) (l2 : D1 < D2) (l3 : D2 < D3) (hd : a.defers = [{ target := .collected D3, args := #[] }, { target := .collected D2, args := #[] }, { target := .collected D1, args := #[] }]) (ht : a.tmps.getD 6 undef = .pointer (some ⟨n + 1, 0, none⟩)) :
    bodyPostM Fence.wide 9 Try.prog Try.f4 (fun e w' => e = .returned (.bool true) ∧ Below w.heap.size w w') Exit.ret a V := by
  obtain ⟨tmps, defers⟩ := a
  simp only at hd ht
  subst hd
  have q2 : (V.putObj D3 (.deferred none)).heap[D2]? = some (.deferred (some [])) := (World.putObj_heap_other (by omega)).trans h2
  have q1 : ((V.putObj D3 (.deferred none)).putObj D2 (.deferred none)).heap[D1]? = some (.deferred (some [])) := (World.putObj_heap_other (by omega)).trans ((World.putObj_heap_other (by omega)).trans h1)
  have hbx : Boxed (((V.putObj D3 (.deferred none)).putObj D2 (.deferred none)).putObj D1 (.deferred none)) (n + 1) 4 (.bool true) := (World.putObj_heap_other (by omega)).trans ((World.putObj_heap_other (by omega)).trans ((World.putObj_heap_other (by omega)).trans hb))
  have hlt := blk_lt h1
  have e1 := (grownBy_putObj' V D3 (.deferred none)).size
  have e2 := (grownBy_putObj' (V.putObj D3 (.deferred none)) D2 (.deferred none)).size
  have hBB : Below n w (((V.putObj D3 (.deferred none)).putObj D2 (.deferred none)).putObj D1 (.deferred none)) := below_putObj (below_putObj (below_putObj hB (by omega) (by omega)) (by omega) (by omega)) (by omega) (by omega)
  refine ⟨by simp, .inl ⟨_, _, rfl, run_takeDeferred h3, ?_⟩⟩
  refine ⟨by simp, .inl ⟨_, _, rfl, run_takeDeferred q2, ?_⟩⟩
  refine ⟨by simp, .inl ⟨_, _, rfl, run_takeDeferred q1, ?_⟩⟩
  refine ⟨.bool true, ?_, rfl, by rw [hn]; exact hBB⟩
  rw [results_cell rfl]
  have hc := hbx.cell
  generalize ((V.putObj D3 (.deferred none)).putObj D2 (.deferred none)).putObj D1 (.deferred none) = U at *
  rw [ht]
  have hl1 : (loadVar 4 ⟨n + 1, 0, none⟩).run Try.prog U = .ok (.bool true) U := by simp [loadVar, go_sem, hc]
  simp [asAddr, Result.andThen, hl1]
/-- In the first loop. -/
structure G1 (W4 : World) (s pre : List It) (W : World) : Prop where
  old : Below W4.heap.size W4 W
  bx : Boxed W W4.heap.size 3 (.int .i64 pre.length)
  pr : pre <+: s
theorem G1.grown {W4 W W' : World} {s pre : List It} {row : Option Nat} (h : G1 W4 s pre W) (hg : W.grownBy W' row) (hr : ∀ r, row = some r → W4.heap.size + 1 ≤ r) : G1 W4 s pre W' := by
  have hl := h.bx.lt
  have key : ∀ k, k < W4.heap.size + 1 → W'.heap[k]? = W.heap[k]? := fun k hk => hg.block k (by omega) (fun e => by have := hr k e.symm; omega)
  exact ⟨⟨hg.os.trans h.old.os, hg.tape.trans h.old.tape, hg.output.trans h.old.output, Nat.le_trans h.old.size hg.size, fun k hk => (key k (by omega)).trans (h.old.block k hk)⟩, (key _ (by omega)).trans h.bx, h.pr⟩
/-- In the second loop. -/
structure G2 (W4 : World) (mb : Nat) (s s2 pre : List It) (W : World) : Prop where
  old : Below W4.heap.size W4 W
  bx : Boxed W W4.heap.size 3 (.int .i64 s.length)
  by' : Boxed W mb 3 (.int .i64 pre.length)
  pr : pre <+: s2
theorem G2.grown {W4 W W' : World} {mb : Nat} {s s2 pre : List It} {row : Option Nat} (h : G2 W4 mb s s2 pre W) (hm : W4.heap.size < mb) (hg : W.grownBy W' row) (hr : ∀ r, row = some r → mb + 1 ≤ r) : G2 W4 mb s s2 pre W' := by
  have hl := h.by'.lt
  have key : ∀ k, k < mb + 1 → W'.heap[k]? = W.heap[k]? := fun k hk => hg.block k (by omega) (fun e => by have := hr k e.symm; omega)
  exact ⟨⟨hg.os.trans h.old.os, hg.tape.trans h.old.tape, hg.output.trans h.old.output, Nat.le_trans h.old.size hg.size, fun k hk => (key k (by omega)).trans (h.old.block k hk)⟩, (key _ (by omega)).trans h.bx, (key _ (by omega)).trans h.by', h.pr⟩
/-- In the third loop. -/
structure G3 (W4 : World) (mb qb sb : Nat) (s : List It) (most k : Nat) (W : World) : Prop where
  old : Below W4.heap.size W4 W
  bx : Boxed W W4.heap.size 3 (.int .i64 s.length)
  by' : Boxed W mb 3 (.int .i64 s.length)
  bq : Boxed W qb 3 (.int .i64 most)
  bs : Boxed W sb 3 (.int .i64 k)
theorem G3.grown {W4 W W' : World} {mb qb sb : Nat} {s : List It} {most k : Nat} {row : Option Nat} (h : G3 W4 mb qb sb s most k W) (hm : W4.heap.size < sb) (hm2 : mb < sb) (hq : qb < sb) (hg : W.grownBy W' row) (hr : ∀ r, row = some r → sb + 1 ≤ r) : G3 W4 mb qb sb s most k W' := by
  have hl := h.bs.lt
  have key : ∀ k, k < sb + 1 → W'.heap[k]? = W.heap[k]? := fun k hk => hg.block k (by omega) (fun e => by have := hr k e.symm; omega)
  exact ⟨⟨hg.os.trans h.old.os, hg.tape.trans h.old.tape, hg.output.trans h.old.output, Nat.le_trans h.old.size hg.size, fun k hk => (key k (by omega)).trans (h.old.block k hk)⟩, (key _ (by omega)).trans h.bx, (key _ (by omega)).trans h.by', (key _ (by omega)).trans h.bq, (key _ (by omega)).trans h.bs⟩
end Go.Proofs.Yteeojhmdefhlmaa
