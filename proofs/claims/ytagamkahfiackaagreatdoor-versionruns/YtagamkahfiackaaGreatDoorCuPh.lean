/- Regions that draw their order and make memory: each operation that may come up, one by one. -/
import Derived.Test.YtagamkahfiackaaGreatDoorVPh
namespace Go.Proofs.YtagamkahfiackaaGreatDoor
open Go.RowKit Go.Sort

section
variable {P : Program} {l : List Oper} {Q : Exit → Act → World → Prop} {md : Region.Mode} {A B C : World → Prop} {e1 e2 : Nat}
/-- An operation comes up next. -/
def StepPh (P : Program) (md : Region.Mode) (l : List Oper) (Q : Exit → Act → World → Prop) (S : Array Bool → World → Prop) (fuel : Nat) (listed : Array Bool) (a : Act) (w : World) (i : Nat) : Prop :=
  wpOp P l.toArray Q i (fun a' w' => S (listed.setIfInBounds i true) w' ∧ wpAnyS P md l.toArray Q S fuel (listed.setIfInBounds i true) a' w') a w
def StepsPh (P : Program) (md : Region.Mode) (l : List Oper) (Q : Exit → Act → World → Prop) (S : Array Bool → World → Prop) (fuel : Nat) (listed : Array Bool) (a : Act) (w : World) (rs : List Nat) : Prop := ∀ i ∈ rs, StepPh P md l Q S fuel listed a w i
theorem steps_nil {S : Array Bool → World → Prop} {fuel : Nat} {listed : Array Bool} {a : Act} {w : World} : StepsPh P md l Q S fuel listed a w [] := fun _ h => by cases h
theorem steps_cons {S : Array Bool → World → Prop} {fuel : Nat} {listed : Array Bool} {a : Act} {w : World} {i : Nat} {rs : List Nat} (h : StepPh P md l Q S fuel listed a w i) (hs : StepsPh P md l Q S fuel listed a w rs) : StepsPh P md l Q S fuel listed a w (i :: rs) := fun j hj => by
  rcases List.mem_cons.1 hj with rfl | hj
  · exact h
  · exact hs j hj
theorem ready_all {S : Array Bool → World → Prop} (rs : List Nat) {fuel : Nat} {listed : Array Bool} {a : Act} {w : World} (hr : Region.ready md l.toArray listed = rs) (hne : rs.isEmpty = false) (h : StepsPh P md l Q S fuel listed a w rs) : wpAnyS P md l.toArray Q S (fuel + 1) listed a w := by
  subst hr
  refine ⟨fun h0 => (by rw [h0] at hne; cases hne), h⟩
theorem step_run {S : Array Bool → World → Prop} (i : Nat) {oi : Oper} {post : List Oper} {fuel : Nat} {listed : Array Bool} {a : Act} {w w' : World} {v : Value} (hi : l.drop i = oi :: post) (hw : Region.wanted oi (yielded l.toArray a.tmps) = true)
    (hrun : (execOp a.eval oi).run P w = .ok (.value v) w' ∨ ((execOp a.eval oi).run P w = .ok .skip w' ∧ v = undef)) (hS : S (listed.setIfInBounds i true) w')
    (h : wpAnyS P md l.toArray Q S fuel (listed.setIfInBounds i true) (a.put oi.dst v) w') : StepPh P md l Q S fuel listed a w i := by
  refine wpOp_step (at_list hi) fun K' hK => ?_
  rw [if_pos hw]
  unfold Oper.wp
  rcases hrun with e | ⟨e, rfl⟩
  · rw [e]
    exact hK _ _ ⟨hS, h⟩
  · rw [e]
    exact hK _ _ ⟨hS, h⟩
theorem step_store {S : Array Bool → World → Prop} (i : Nat) {oi : Oper} {post : List Oper} {fuel : Nat} {listed : Array Bool} {a : Act} {w w' : World} (hi : l.drop i = oi :: post) (hw : Region.wanted oi (yielded l.toArray a.tmps) = true)
    (t : TypeId) (x v : Operand) (ho : oi.op = .store t x v) (xv vv : Value) (hx : a.eval x = xv) (hv : a.eval v = vv) (hrun : (Instr.storeAt t xv vv).run P w = .ok () w') (hS : S (listed.setIfInBounds i true) w')
    (h : wpAnyS P md l.toArray Q S fuel (listed.setIfInBounds i true) (a.put oi.dst undef) w') : StepPh P md l Q S fuel listed a w i :=
  step_run i hi hw (.inr ⟨by unfold execOp; simp only [ho, hx, hv, hrun, Sem.run_bind, Sem.run_pure, Result.andThen_ok], rfl⟩) hS h
theorem step_alloc {S : Array Bool → World → Prop} (i : Nat) {oi : Oper} {post : List Oper} {fuel : Nat} {listed : Array Bool} {a : Act} {w : World} (hi : l.drop i = oi :: post) (hw : Region.wanted oi (yielded l.toArray a.tmps) = true)
    (t : TypeId) (ho : oi.op = .alloc t) (cs : Array Value) (hz : (zeroValue t).run P w = .ok (.agg cs) w)
    (h : ∀ p U, U.heap[p]? = some (.cells cs t (0, 0)) → Below w.heap.size w U → w.heap.size ≤ p → S (listed.setIfInBounds i true) U ∧ wpAnyS P md l.toArray Q S fuel (listed.setIfInBounds i true) (a.put oi.dst (.pointer (some ⟨p, 0, none⟩))) U) : StepPh P md l Q S fuel listed a w i := by
  obtain ⟨h1, h2⟩ := h w.heap.size (w.alloc (.cells cs t)) (new_blk w _) (below_alloc w _) (Nat.le_refl _)
  refine step_run i hi hw (.inl ?_) h1 h2
  unfold execOp
  simp only [ho]
  simp [go_sem, Sem.run_bind, Result.andThen, hz, Value.cells]
theorem blkKeep {V w' : World} {p : Nat} {o : Obj} (hb : Below V.heap.size V w') (h : V.heap[p]? = some o) : w'.heap[p]? = some o := (hb.block p (blk_lt h)).trans h
theorem cell_same {V V' : World} {b o : Nat} (h : V'.heap[b]? = V.heap[b]?) : V'.cell? ⟨b, o, none⟩ = V.cell? ⟨b, o, none⟩ := by unfold World.cell?; simp only [h]
theorem step_call {S : Array Bool → World → Prop} (i : Nat) {oi : Oper} {post : List Oper} {fuel : Nat} {listed : Array Bool} {a : Act} {w : World} (hi : l.drop i = oi :: post)
    (h : ∀ K' : Act → World → Prop, Shut (∀ a w, S (listed.setIfInBounds i true) w → (wpAnyS P md l.toArray Q S fuel (listed.setIfInBounds i true) a w) → K' a w) → if Region.wanted oi (yielded l.toArray a.tmps) = true then Oper.wp P oi a w K' Q else K' (a.put oi.dst undef) w) :
    StepPh P md l Q S fuel listed a w i := wpOp_step (at_list hi) fun K' hK => h K' fun a w hS hW => hK a w ⟨hS, hW⟩
end
end Go.Proofs.YtagamkahfiackaaGreatDoor
