/- Regions that draw their order, by hand: one operation taken first; a load, a look-up, a store into a map, a delete. -/
import Derived.Test.YtjnhcanohefjiaaGreatDoorDWalk2
namespace Go.Proofs.YtjnhcanohefjiaaGreatDoor
open Go.RowKit Go.Sort Go.Maps

section
variable {P : Program} {l : List Oper} {Q : Exit → Act → World → Prop} {md : Region.Mode} {S : World → Prop}
/-- One operation of a drawn region, taken first: it is found in the list. -/
theorem take_at (i : Nat) (v : Value) {oi : Oper} {post : List Oper} {fuel : Nat} {listed : Array Bool} {a : Act} {w : World} (hi : l.drop i = oi :: post)
    (hs : Region.noSelect l.toArray = true) (hf : Region.free md l.toArray listed i = true) (hr : (Region.ready md l.toArray listed).contains i = true)
    (hQ : ∀ c a w, Q (.panic c) (a.put oi.dst v) w → Q (.panic c) a w) (hy : YieldsIf P l.toArray S oi v a) (hS : S w)
    (h : wpAnyH P md l.toArray Q S fuel (listed.setIfInBounds i true) (a.put oi.dst v) w) : wpAnyH P md l.toArray Q S (fuel + 1) listed a w := by
  refine wpAnyH_take (i := i) ?_ hs hf hr hQ hy hS h
  have h1 : (l.drop i)[0]? = some oi := by rw [hi]; rfl
  rw [List.getElem?_drop, Nat.add_zero] at h1
  simpa using h1
theorem yields_load {ops : Array Oper} {o : Oper} {a : Act} (hw : Region.wanted o (yielded ops a.tmps) = true) (ty : TypeId) (x : Operand) (ho : o.op = .load ty x) (p v : Value) (hx : a.eval x = p)
    (hr : ∀ w, S w → (Instr.loadAt ty p).run P w = .ok v w) : YieldsIf P ops S o v a :=
  .inl ⟨hw, fun w hS => by
    unfold execOp
    simp only [ho, hx, hr w hS, Sem.run_bind, Sem.run_pure, Result.andThen_ok]⟩
theorem yields_lookup {ops : Array Oper} {o : Oper} {a : Act} (hw : Region.wanted o (yielded ops a.tmps) = true) (ty : TypeId) (m x : Operand) (c : Bool) (ho : o.op = .lookup ty m x c) (mv xv v : Value) (hm : a.eval m = mv) (hx : a.eval x = xv)
    (hr : ∀ w, S w → (Instr.lookup ty mv xv c).run P w = .ok v w) : YieldsIf P ops S o v a :=
  .inl ⟨hw, fun w hS => by
    unfold execOp
    simp only [ho, hm, hx, hr w hS, Sem.run_bind, Sem.run_pure, Result.andThen_ok]⟩
/-- The one operation that may come up. -/
theorem ready_at (i : Nat) {oi : Oper} {post : List Oper} {fuel : Nat} {listed : Array Bool} {a : Act} {w w' : World} {v : Value} (hi : l.drop i = oi :: post) (hr : Region.ready md l.toArray listed = [i]) (hw : Region.wanted oi (yielded l.toArray a.tmps) = true)
    (hrun : (execOp a.eval oi).run P w = .ok (.value v) w' ∨ ((execOp a.eval oi).run P w = .ok .skip w' ∧ v = undef)) (hS : S w')
    (h : wpAnyH P md l.toArray Q S fuel (listed.setIfInBounds i true) (a.put oi.dst v) w') : wpAnyH P md l.toArray Q S (fuel + 1) listed a w := by
  have h1 : l.toArray[i]? = some oi := by
    have h1 : (l.drop i)[0]? = some oi := by rw [hi]; rfl
    rw [List.getElem?_drop, Nat.add_zero] at h1
    simpa using h1
  refine wpAnyH_ready hr (by simp) (AllReadyH.cons h1 (fun K hK => ?_) AllReadyH.nil)
  rw [if_pos hw]
  unfold Oper.wp
  rcases hrun with e | ⟨e, rfl⟩
  · rw [e]
    exact hK.out _ _ hS (fun _ => h)
  · rw [e]
    exact hK.out _ _ hS (fun _ => h)
theorem ready_update (i : Nat) {oi : Oper} {post : List Oper} {fuel : Nat} {listed : Array Bool} {a : Act} {w w' : World} (hi : l.drop i = oi :: post) (hr : Region.ready md l.toArray listed = [i]) (hw : Region.wanted oi (yielded l.toArray a.tmps) = true)
    (t : TypeId) (m x v : Operand) (ho : oi.op = .mapUpdate t m x v) (mv xv vv : Value) (hm : a.eval m = mv) (hx : a.eval x = xv) (hv : a.eval v = vv) (hrun : (Instr.mapUpdate t mv xv vv).run P w = .ok () w') (hS : S w')
    (h : wpAnyH P md l.toArray Q S fuel (listed.setIfInBounds i true) (a.put oi.dst undef) w') : wpAnyH P md l.toArray Q S (fuel + 1) listed a w :=
  ready_at i hi hr hw (.inr ⟨by unfold execOp; simp only [ho, hm, hx, hv, hrun, Sem.run_bind, Sem.run_pure, Result.andThen_ok], rfl⟩) hS h
theorem ready_store (i : Nat) {oi : Oper} {post : List Oper} {fuel : Nat} {listed : Array Bool} {a : Act} {w w' : World} (hi : l.drop i = oi :: post) (hr : Region.ready md l.toArray listed = [i]) (hw : Region.wanted oi (yielded l.toArray a.tmps) = true)
    (t : TypeId) (x v : Operand) (ho : oi.op = .store t x v) (xv vv : Value) (hx : a.eval x = xv) (hv : a.eval v = vv) (hrun : (Instr.storeAt t xv vv).run P w = .ok () w') (hS : S w')
    (h : wpAnyH P md l.toArray Q S fuel (listed.setIfInBounds i true) (a.put oi.dst undef) w') : wpAnyH P md l.toArray Q S (fuel + 1) listed a w :=
  ready_at i hi hr hw (.inr ⟨by unfold execOp; simp only [ho, hx, hv, hrun, Sem.run_bind, Sem.run_pure, Result.andThen_ok], rfl⟩) hS h
theorem ready_delete (i : Nat) {oi : Oper} {post : List Oper} {fuel : Nat} {listed : Array Bool} {a : Act} {w w' : World} (hi : l.drop i = oi :: post) (hr : Region.ready md l.toArray listed = [i]) (hw : Region.wanted oi (yielded l.toArray a.tmps) = true)
    (t k : TypeId) (m x : Operand) (ho : oi.op = .call { callee := .builtin .delete, args := #[m, x], argTypes := #[t, k] }) (mv xv : Value) (hm : a.eval m = mv) (hx : a.eval x = xv) (hrun : (Builtin.delete_ #[t, k] oi.type #[mv, xv]).run P w = .ok (.tuple #[]) w') (hS : S w')
    (h : wpAnyH P md l.toArray Q S fuel (listed.setIfInBounds i true) (a.put oi.dst (.tuple #[])) w') : wpAnyH P md l.toArray Q S (fuel + 1) listed a w :=
  ready_at i hi hr hw (.inl (by simp [execOp, ho, resolve, invoke, builtin, hm, hx, hrun, Result.andThen])) hS h
end
theorem alloc_ct (w : World) : (Instr.alloc 137 true (.tuple #[])).run Tryz.prog w = .ok (.pointer (some ⟨w.heap.size, 0, none⟩)) (w.alloc (.cells (vals zeroC).toArray 137)) := by
  have hz := (zero_of_info infoC).1 w
  rw [zero_vals] at hz
  simp [Instr.alloc, hz, newVar, newObj, go_sem, Value.cells, Result.andThen]
  rfl
theorem wpList_alloc_ct {ops : Array Oper} {rest : List Oper} {op : Oper} {a : Act} {w : World} {Q : Exit → Act → World → Prop} (hgd : op.guard = none) (ho : op.op = .alloc 137)
    (h : wpList Tryz.prog ops Q rest (a.put op.dst (.pointer (some ⟨w.heap.size, 0, none⟩))) (w.alloc (.cells (vals zeroC).toArray 137))) : wpList Tryz.prog ops Q (op :: rest) a w :=
  wpList_plain hgd fun _ hK => by
    unfold Oper.wp execOp
    simp only [ho, alloc_ct w, Sem.run_bind, Sem.run_pure, Result.andThen_ok]
    exact hK _ _ h
theorem ready_alloc {l : List Oper} {Q : Exit → Act → World → Prop} {md : Region.Mode} {S : World → Prop} (i : Nat) {oi : Oper} {post : List Oper} {fuel : Nat} {listed : Array Bool} {a : Act} {w : World} (hi : l.drop i = oi :: post) (hr : Region.ready md l.toArray listed = [i]) (hw : Region.wanted oi (yielded l.toArray a.tmps) = true)
    (ho : oi.op = .alloc 137) (hS : S (w.alloc (.cells (vals zeroC).toArray 137)))
    (h : wpAnyH Tryz.prog md l.toArray Q S fuel (listed.setIfInBounds i true) (a.put oi.dst (.pointer (some ⟨w.heap.size, 0, none⟩))) (w.alloc (.cells (vals zeroC).toArray 137))) : wpAnyH Tryz.prog md l.toArray Q S (fuel + 1) listed a w :=
  ready_at i hi hr hw (.inl (by unfold execOp; simp only [ho, alloc_ct w, Sem.run_bind, Sem.run_pure, Result.andThen_ok])) hS h
theorem grown_drew (W : World) (row : Option Nat) : W.grownBy W.drew row := ⟨rfl, rfl, rfl, Nat.le_refl _, fun _ _ _ => rfl⟩
theorem grown_below {W w w' : World} {row : Option Nat} (h : W.grownBy w row) (hb : Below w.heap.size w w') : W.grownBy w' row :=
  ⟨hb.os.trans h.os, hb.tape.trans h.tape, hb.output.trans h.output, Nat.le_trans h.size hb.size, fun i hi hne => (hb.block i (Nat.lt_of_lt_of_le hi h.size)).trans (h.block i hi hne)⟩
theorem grown_turned {W w w' : World} {m : Nat} (h : W.grownBy w (some m)) (ht : w.mapTurned w' m) : W.grownBy w' (some m) := by
  have hg := ht.grown
  exact ⟨hg.os.trans h.os, hg.tape.trans h.tape, hg.output.trans h.output, Nat.le_trans h.size hg.size, fun i hi hne => (hg.block i (Nat.lt_of_lt_of_le hi h.size) hne).trans (h.block i hi hne)⟩
theorem grown_cell {W V : World} {m b o : Nat} {v : Value} (h : W.grownBy V (some m)) (hc : W.cell? ⟨b, o, none⟩ = some v) (hne : b ≠ m) : V.cell? ⟨b, o, none⟩ = some v := by
  have := h.block b (block_lt_of_cell hc) (fun e => hne (by cases e; rfl))
  rw [← hc]
  simp [World.cell?, this]
end Go.Proofs.YtjnhcanohefjiaaGreatDoor
