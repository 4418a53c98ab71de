/- Regions that draw their order and end in a store into what they read: what holds until an operation has come up. -/
import Derived.Test.YtagamkahfiackaaGreatDoorVMem
namespace Go.Proofs.YtagamkahfiackaaGreatDoor
open Go.RowKit Go.Sort

section
variable {P : Program} {ops : Array Oper} {Q : Exit → Act → World → Prop} {md : Region.Mode}
/-- A holds always, B until e1 has come up, C until e2 has. -/
def Ph (A : World → Prop) (e1 : Nat) (B : World → Prop) (e2 : Nat) (C : World → Prop) (l : Array Bool) (w : World) : Prop := A w ∧ (l.getD e1 true = false → B w) ∧ (l.getD e2 true = false → C w)
/-- What an operation may lean on that comes up ahead of all of T. -/
def PhT (A : World → Prop) (e1 : Nat) (B : World → Prop) (e2 : Nat) (C : World → Prop) (T : List Nat) (w : World) : Prop := A w ∧ (e1 ∈ T → B w) ∧ (e2 ∈ T → C w)
theorem Ph.skip {A B C : World → Prop} {e1 e2 i : Nat} {l : Array Bool} {w : World} (h1 : i ≠ e1) (h2 : i ≠ e2) : Ph A e1 B e2 C (l.setIfInBounds i true) w ↔ Ph A e1 B e2 C l w := by
  unfold Ph
  rw [getD_set_ne true h1, getD_set_ne true h2]
def wpAnyS (P : Program) (md : Region.Mode) (ops : Array Oper) (Q : Exit → Act → World → Prop) (S : Array Bool → World → Prop) : Nat → Array Bool → Act → World → Prop
  | 0, listed, a, w => Region.ready md ops listed = [] ∧ Q .normal a w
  | fuel + 1, listed, a, w =>
    (Region.ready md ops listed = [] → Q .normal a w) ∧
    ∀ i ∈ Region.ready md ops listed, wpOp P ops Q i (fun a' w' => S (listed.setIfInBounds i true) w' ∧ wpAnyS P md ops Q S fuel (listed.setIfInBounds i true) a' w') a w
theorem wpAny_of_S {S : Array Bool → World → Prop} : ∀ (fuel : Nat) (listed : Array Bool) (a : Act) (w : World), wpAnyS P md ops Q S fuel listed a w → wpAny P md ops Q fuel listed a w
  | 0, _, _, _, h => h
  | fuel + 1, _, _, _, h => ⟨h.1, fun i hi => wpOp_mono (fun a' w' h' => wpAny_of_S fuel _ a' w' h'.2) (h.2 i hi)⟩
theorem wpAnyS_first {A B C : World → Prop} {e1 e2 : Nat} {i : Nat} {oi : Oper} {v : Value} (hi : ops[i]? = some oi) (hsel : ∀ (j : Nat) (o : Oper) cs b, ops[j]? = some o → o.op ≠ .select cs b)
    (hQ : ∀ c a w, Q (.panic c) (a.put oi.dst v) w → Q (.panic c) a w) (h1 : i ≠ e1) (h2 : i ≠ e2) (T : List Nat)
    (hT : ∀ t ∈ T, ∃ ot, ops[t]? = some ot ∧ ∃ e ∈ ot.after, Region.binds md e = true ∧ (e.on = i ∨ e.on ∈ T)) (hiT : i ∉ T) :
    ∀ (fuel : Nat) (listed : Array Bool) (a : Act) (w : World),
      (∀ j oj, ops[j]? = some oj → j ≠ i → listed.getD j true = false → (∀ e ∈ oj.after, Region.binds md e = true → e.on ≠ i) → oi.apart ops oj = true) →
      i ∈ Region.ready md ops listed → (∀ t ∈ T, listed.getD t true = false) → YieldsIf P ops (PhT A e1 B e2 C T) oi v a → Ph A e1 B e2 C listed w →
      wpAnyS P md ops Q (Ph A e1 B e2 C) fuel (listed.setIfInBounds i true) (a.put oi.dst v) w → wpAnyS P md ops Q (Ph A e1 B e2 C) (fuel + 1) listed a w := by
  have key : ∀ listed w, (∀ t ∈ T, listed.getD t true = false) → Ph A e1 B e2 C listed w → PhT A e1 B e2 C T w := fun listed w hl hS => ⟨hS.1, fun q => hS.2.1 (hl _ q), fun q => hS.2.2 (hl _ q)⟩
  intro fuel
  induction fuel with
  | zero =>
    intro listed a w _ hr hl hy hS H
    refine ⟨fun h => (by rw [h] at hr; cases hr), fun j hj => ?_⟩
    by_cases hji : j = i
    · subst hji; exact hy.wpOp hi (key _ _ hl hS) ⟨(Ph.skip h1 h2).2 hS, H⟩
    · have := ready_mono hj hji
      rw [H.1] at this
      cases this
  | succ fuel ih =>
    intro listed a w hfree hr hl hy hS H
    refine ⟨fun h => (by rw [h] at hr; cases hr), fun j hj => ?_⟩
    by_cases hji : j = i
    · subst hji; exact hy.wpOp hi (key _ _ hl hS) ⟨(Ph.skip h1 h2).2 hS, H⟩
    · have hh := H.2 j (ready_mono hj hji)
      obtain ⟨hjun, oj, hoj, hall⟩ := mem_ready.1 hj
      have off : ∀ k, listed.getD k true = false → listed.getD k false = true → False := fun k h0 h1 => by
        rcases Nat.lt_or_ge k listed.size with h' | h'
        · simp [h'] at h0 h1; rw [h0] at h1; cases h1
        · simp [Array.getElem?_eq_none h'] at h1
      have hi0 := (mem_ready.1 hr).1
      have hnot : ∀ e ∈ oj.after, Region.binds md e = true → e.on ≠ i := fun e he hb heq => off i hi0 (heq ▸ hall e he hb)
      have hjT : j ∉ T := fun q => by
        obtain ⟨ot, e0, e, he, hb, hon⟩ := hT j q
        rw [hoj] at e0; cases e0
        rcases hon with hon | hon
        · exact hnot e he hb hon
        · exact off _ (hl _ hon) (hall e he hb)
      have h3 := wpOp_putIf hoj (hfree j oj hoj hji hjun hnot) (fun cs b => hsel i oi cs b hi) (fun cs b => hsel j oj cs b hoj) hQ hy hh
      have hfree' : ∀ k ok, ops[k]? = some ok → k ≠ i → (listed.setIfInBounds j true).getD k true = false →
          (∀ e ∈ ok.after, Region.binds md e = true → e.on ≠ i) → oi.apart ops ok = true := fun k ok hk hki hun hno => by
        refine hfree k ok hk hki ?_ hno
        by_cases hjk : j = k
        · subst hjk; exact hjun
        · rw [getD_set_ne true hjk] at hun; exact hun
      refine wpOp_mono (fun a' w' h4 => ?_) h3
      have h5 := h4.2.1
      rw [Array.setIfInBounds_comm _ _ (Ne.symm hji)] at h5
      have h6 := (Ph.skip h1 h2).1 h5
      refine ⟨h6, ih (listed.setIfInBounds j true) a' w' hfree' (ready_mono hr (Ne.symm hji)) (fun t ht => ?_) h4.1 h6 ?_⟩
      · rw [getD_set_ne true (show j ≠ t from fun e => hjT (e ▸ ht))]; exact hl t ht
      · rw [Array.setIfInBounds_comm _ _ hji]
        exact h4.2.2
/-- T waits for i. -/
def waits (md : Region.Mode) (ops : Array Oper) (i : Nat) (T : List Nat) : Bool := T.all fun t => (ops[t]?).any fun o => o.after.any fun e => Region.binds md e && (e.on == i || T.contains e.on)
theorem waits_spec {i : Nat} {T : List Nat} (h : waits md ops i T = true) : ∀ t ∈ T, ∃ ot, ops[t]? = some ot ∧ ∃ e ∈ ot.after, Region.binds md e = true ∧ (e.on = i ∨ e.on ∈ T) := by
  intro t ht
  have := List.all_eq_true.1 h t ht
  cases ho : ops[t]? with
  | none => rw [ho] at this; simp at this
  | some o =>
    rw [ho] at this
    simp only [Option.any_some] at this
    obtain ⟨k, hk, h2⟩ := Array.any_eq_true.1 this
    simp only [Bool.and_eq_true, Bool.or_eq_true, beq_iff_eq, List.contains_eq_mem, decide_eq_true_eq] at h2
    exact ⟨o, rfl, o.after[k], Array.getElem_mem hk, h2.1, h2.2⟩
end
section
variable {P : Program} {l : List Oper} {Q : Exit → Act → World → Prop} {md : Region.Mode} {A B C : World → Prop} {e1 e2 : Nat}
theorem at_list {i : Nat} {oi : Oper} {post : List Oper} (hi : l.drop i = oi :: post) : l.toArray[i]? = some oi := by
  have h1 : (l.drop i)[0]? = some oi := by rw [hi]; rfl
  rw [List.getElem?_drop, Nat.add_zero] at h1
  simpa using h1
/-- One operation taken first. -/
theorem take_ph (i : Nat) (v : Value) (T : List Nat) {oi : Oper} {post : List Oper} {fuel : Nat} {listed : Array Bool} {a : Act} {w : World} (hi : l.drop i = oi :: post)
    (hs : (Region.noSelect l.toArray && (Region.free md l.toArray listed i && ((Region.ready md l.toArray listed).contains i && (waits md l.toArray i T && (!(T.contains i) && (T.all (fun t => !(listed.getD t true)) && (!(i == e1) && !(i == e2)))))))) = true)
    (hQ : ∀ c a w, Q (.panic c) (a.put oi.dst v) w → Q (.panic c) a w) (hy : YieldsIf P l.toArray (PhT A e1 B e2 C T) oi v a) (hS : Ph A e1 B e2 C listed w)
    (h : Ph A e1 B e2 C (listed.setIfInBounds i true) w → wpAnyS P md l.toArray Q (Ph A e1 B e2 C) fuel (listed.setIfInBounds i true) (a.put oi.dst v) w) : wpAnyS P md l.toArray Q (Ph A e1 B e2 C) (fuel + 1) listed a w := by
  simp only [Bool.and_eq_true, Bool.not_eq_true'] at hs
  obtain ⟨s1, s2, s3, s4, s5, s6, s7, s8⟩ := hs
  have n1 : i ≠ e1 := by simpa using s7
  have n2 : i ≠ e2 := by simpa using s8
  refine wpAnyS_first (at_list hi) (Region.noSelect_spec s1) hQ n1 n2 T (waits_spec s4) (by simpa using s5) fuel listed a w (Region.free_spec (at_list hi) s2) (by simpa using s3) (fun t ht => ?_) hy hS (h ((Ph.skip n1 n2).2 hS))
  have := List.all_eq_true.1 s6 t ht
  simpa using this
/-- The one operation that may come up. -/
theorem ready_ph (i : Nat) {oi : Oper} {post : List Oper} {fuel : Nat} {listed : Array Bool} {a : Act} {w w' : World} {v : Value} (hi : l.drop i = oi :: post) (hr : Region.ready md l.toArray listed = [i]) (hw : Region.wanted oi (yielded l.toArray a.tmps) = true)
    (hrun : (execOp a.eval oi).run P w = .ok (.value v) w' ∨ ((execOp a.eval oi).run P w = .ok .skip w' ∧ v = undef)) (hS : Ph A e1 B e2 C (listed.setIfInBounds i true) w')
    (h : Ph A e1 B e2 C (listed.setIfInBounds i true) w' → wpAnyS P md l.toArray Q (Ph A e1 B e2 C) fuel (listed.setIfInBounds i true) (a.put oi.dst v) w') : wpAnyS P md l.toArray Q (Ph A e1 B e2 C) (fuel + 1) listed a w := by
  refine ⟨fun h0 => (by rw [hr] at h0; cases h0), fun j hj => ?_⟩
  rw [hr, List.mem_singleton] at hj
  subst hj
  refine wpOp_step (at_list hi) fun K' hK => ?_
  rw [if_pos hw]
  unfold Oper.wp
  rcases hrun with e | ⟨e, rfl⟩
  · rw [e]
    exact hK _ _ ⟨hS, h hS⟩
  · rw [e]
    exact hK _ _ ⟨hS, h hS⟩
theorem ready_store_ph (i : Nat) {oi : Oper} {post : List Oper} {fuel : Nat} {listed : Array Bool} {a : Act} {w w' : World} (hi : l.drop i = oi :: post) (hr : Region.ready md l.toArray listed = [i]) (hw : Region.wanted oi (yielded l.toArray a.tmps) = true)
    (t : TypeId) (x v : Operand) (ho : oi.op = .store t x v) (xv vv : Value) (hx : a.eval x = xv) (hv : a.eval v = vv) (hrun : (Instr.storeAt t xv vv).run P w = .ok () w') (hS : Ph A e1 B e2 C (listed.setIfInBounds i true) w')
    (h : Ph A e1 B e2 C (listed.setIfInBounds i true) w' → wpAnyS P md l.toArray Q (Ph A e1 B e2 C) fuel (listed.setIfInBounds i true) (a.put oi.dst undef) w') : wpAnyS P md l.toArray Q (Ph A e1 B e2 C) (fuel + 1) listed a w :=
  ready_ph i hi hr hw (.inr ⟨by unfold execOp; simp only [ho, hx, hv, hrun, Sem.run_bind, Sem.run_pure, Result.andThen_ok], rfl⟩) hS h
/-- A call. -/
theorem ready_call_ph (i : Nat) {oi : Oper} {post : List Oper} {fuel : Nat} {listed : Array Bool} {a : Act} {w : World} (hi : l.drop i = oi :: post) (hr : Region.ready md l.toArray listed = [i])
    (h : ∀ K' : Act → World → Prop, Shut (∀ a w, Ph A e1 B e2 C (listed.setIfInBounds i true) w → (Ph A e1 B e2 C (listed.setIfInBounds i true) w → wpAnyS P md l.toArray Q (Ph A e1 B e2 C) fuel (listed.setIfInBounds i true) a w) → K' a w) → if Region.wanted oi (yielded l.toArray a.tmps) = true then Oper.wp P oi a w K' Q else K' (a.put oi.dst undef) w) :
    wpAnyS P md l.toArray Q (Ph A e1 B e2 C) (fuel + 1) listed a w := by
  refine ⟨fun h0 => (by rw [hr] at h0; cases h0), fun j hj => ?_⟩
  rw [hr, List.mem_singleton] at hj
  subst hj
  exact wpOp_step (at_list hi) fun K' hK => h K' fun a w hS hW => hK a w ⟨hS, hW hS⟩
theorem done_ph {listed : Array Bool} {a : Act} {w : World} (hr : Region.ready md l.toArray listed = []) (h : Q .normal a w) : ∀ fuel, wpAnyS P md l.toArray Q (Ph A e1 B e2 C) fuel listed a w
  | 0 => ⟨hr, h⟩
  | _ + 1 => ⟨fun _ => h, by rw [hr]; simp⟩
theorem region_ph {id : Nat} {a : Act} {w : World} (hm : P.follows .mixedOrders = true) (hS : Ph A e1 B e2 C (Array.replicate l.length false) w.drew)
    (h : Ph A e1 B e2 C (Array.replicate l.length false) w.drew → wpAnyS P .any l.toArray Q (Ph A e1 B e2 C) l.length (Array.replicate l.length false) a w.drew) : (Code.region id l.toArray true).wp P Q a w := by
  refine wp_region_any hm (wpAny_of_S (S := Ph A e1 B e2 C) _ _ _ _ ?_)
  rw [List.size_toArray]
  exact h hS
end
end Go.Proofs.YtagamkahfiackaaGreatDoor
