/- Regions that draw their order and end in a store into what they read: what holds until an operation has come up; slices.Insert at items; slices.Insert at children; Steps on a node's items and children; node.splitChild; node.splitChild at a node with children; Trees over a store: what a node holds, and which nodes are below it. -/
import Derived.Test.YtagamkahfiackaaGreatDoorJ1
import Derived.Deep.RegionLaw
namespace Go.Proofs.YtagamkahfiackaaGreatDoor
open Go.RowKit Go.Sort

section
variable {P : Program} {ops : Array Oper} {Q : Exit → Act → World → Prop} {md : Region.Mode}
/-- A holds always, B until e1 has come up, C until e2 has. -/
def Ph (A : World → Prop) (e1 : Nat) (B : World → Prop) (e2 : Nat) (C : World → Prop) (l : Array Bool) (w : World) : Prop := A w ∧ (l.getD e1 true = false → B w) ∧ (l.getD e2 true = false → C w)
/-- What an operation may lean on that comes up ahead of all of T. -/
def PhT (A : World → Prop) (e1 : Nat) (B : World → Prop) (e2 : Nat) (C : World → Prop) (T : List Nat) (w : World) : Prop := A w ∧ (e1 ∈ T → B w) ∧ (e2 ∈ T → C w)
theorem Ph.skip {A B C : World → Prop} {e1 e2 i : Nat} {l : Array Bool} {w : World} (h1 : i ≠ e1) (h2 : i ≠ e2) : Ph A e1 B e2 C (l.setIfInBounds i true) w ↔ Ph A e1 B e2 C l w := by
  unfold Ph
  rw [getD_set_ne true h1, getD_set_ne true h2]
def wpAnyS (P : Program) (md : Region.Mode) (ops : Array Oper) (Q : Exit → Act → World → Prop) (S : Array Bool → World → Prop) : Nat → Array Bool → Act → World → Prop
  | 0, listed, a, w => Region.ready md ops listed = [] ∧ Q .normal a w
  | fuel + 1, listed, a, w =>
    (Region.ready md ops listed = [] → Q .normal a w) ∧
    ∀ i ∈ Region.ready md ops listed, wpOp P ops Q i (fun a' w' => S (listed.setIfInBounds i true) w' ∧ wpAnyS P md ops Q S fuel (listed.setIfInBounds i true) a' w') a w
theorem wpAny_of_S {S : Array Bool → World → Prop} : ∀ (fuel : Nat) (listed : Array Bool) (a : Act) (w : World), wpAnyS P md ops Q S fuel listed a w → wpAny P md ops Q fuel listed a w
  | 0, _, _, _, h => h
  | fuel + 1, _, _, _, h => ⟨h.1, fun i hi => wpOp_mono (fun a' w' h' => wpAny_of_S fuel _ a' w' h'.2) (h.2 i hi)⟩
theorem wpAnyS_first {A B C : World → Prop} {e1 e2 : Nat} {i : Nat} {oi : Oper} {v : Value} (hi : ops[i]? = some oi) (hsel : ∀ (j : Nat) (o : Oper) cs b, ops[j]? = some o → o.op ≠ .select cs b)
    (hQ : ∀ c a w, Q (.panic c) (a.put oi.dst v) w → Q (.panic c) a w) (h1 : i ≠ e1) (h2 : i ≠ e2) (T : List Nat)
    (hT : ∀ t ∈ T, ∃ ot, ops[t]? = some ot ∧ ∃ e ∈ ot.after, Region.binds md e = true ∧ (e.on = i ∨ e.on ∈ T)) (hiT : i ∉ T) :
    ∀ (fuel : Nat) (listed : Array Bool) (a : Act) (w : World),
      (∀ j oj, ops[j]? = some oj → j ≠ i → listed.getD j true = false → (∀ e ∈ oj.after, Region.binds md e = true → e.on ≠ i) → oi.apart ops oj = true) →
      i ∈ Region.ready md ops listed → (∀ t ∈ T, listed.getD t true = false) → YieldsIf P ops (PhT A e1 B e2 C T) oi v a → Ph A e1 B e2 C listed w →
      wpAnyS P md ops Q (Ph A e1 B e2 C) fuel (listed.setIfInBounds i true) (a.put oi.dst v) w → wpAnyS P md ops Q (Ph A e1 B e2 C) (fuel + 1) listed a w := by
  have key : ∀ listed w, (∀ t ∈ T, listed.getD t true = false) → Ph A e1 B e2 C listed w → PhT A e1 B e2 C T w := fun listed w hl hS => ⟨hS.1, fun q => hS.2.1 (hl _ q), fun q => hS.2.2 (hl _ q)⟩
  intro fuel
  induction fuel with
  | zero =>
    intro listed a w _ hr hl hy hS H
    refine ⟨fun h => (by rw [h] at hr; cases hr), fun j hj => ?_⟩
    by_cases hji : j = i
    · subst hji; exact hy.wpOp hi (key _ _ hl hS) ⟨(Ph.skip h1 h2).2 hS, H⟩
    · have := ready_mono hj hji
      rw [H.1] at this
      cases this
  | succ fuel ih =>
    intro listed a w hfree hr hl hy hS H
    refine ⟨fun h => (by rw [h] at hr; cases hr), fun j hj => ?_⟩
    by_cases hji : j = i
    · subst hji; exact hy.wpOp hi (key _ _ hl hS) ⟨(Ph.skip h1 h2).2 hS, H⟩
    · have hh := H.2 j (ready_mono hj hji)
      obtain ⟨hjun, oj, hoj, hall⟩ := mem_ready.1 hj
      have off : ∀ k, listed.getD k true = false → listed.getD k false = true → False := fun k h0 h1 => by
        rcases Nat.lt_or_ge k listed.size with h' | h'
        · simp [h'] at h0 h1; rw [h0] at h1; cases h1
        · simp [Array.getElem?_eq_none h'] at h1
      have hi0 := (mem_ready.1 hr).1
      have hnot : ∀ e ∈ oj.after, Region.binds md e = true → e.on ≠ i := fun e he hb heq => off i hi0 (heq ▸ hall e he hb)
      have hjT : j ∉ T := fun q => by
        obtain ⟨ot, e0, e, he, hb, hon⟩ := hT j q
        rw [hoj] at e0; cases e0
        rcases hon with hon | hon
        · exact hnot e he hb hon
        · exact off _ (hl _ hon) (hall e he hb)
      have h3 := wpOp_putIf hoj (hfree j oj hoj hji hjun hnot) (fun cs b => hsel i oi cs b hi) (fun cs b => hsel j oj cs b hoj) hQ hy hh
      have hfree' : ∀ k ok, ops[k]? = some ok → k ≠ i → (listed.setIfInBounds j true).getD k true = false →
          (∀ e ∈ ok.after, Region.binds md e = true → e.on ≠ i) → oi.apart ops ok = true := fun k ok hk hki hun hno => by
        refine hfree k ok hk hki ?_ hno
        by_cases hjk : j = k
        · subst hjk; exact hjun
        · rw [getD_set_ne true hjk] at hun; exact hun
      refine wpOp_mono (fun a' w' h4 => ?_) h3
      have h5 := h4.2.1
      rw [Array.setIfInBounds_comm _ _ (Ne.symm hji)] at h5
      have h6 := (Ph.skip h1 h2).1 h5
      refine ⟨h6, ih (listed.setIfInBounds j true) a' w' hfree' (ready_mono hr (Ne.symm hji)) (fun t ht => ?_) h4.1 h6 ?_⟩
      · rw [getD_set_ne true (show j ≠ t from fun e => hjT (e ▸ ht))]; exact hl t ht
      · rw [Array.setIfInBounds_comm _ _ hji]
        exact h4.2.2
/-- T waits for i. -/
def waits (md : Region.Mode) (ops : Array Oper) (i : Nat) (T : List Nat) : Bool := T.all fun t => (ops[t]?).any fun o => o.after.any fun e => Region.binds md e && (e.on == i || T.contains e.on)
theorem waits_spec {i : Nat} {T : List Nat} (h : waits md ops i T = true) : ∀ t ∈ T, ∃ ot, ops[t]? = some ot ∧ ∃ e ∈ ot.after, Region.binds md e = true ∧ (e.on = i ∨ e.on ∈ T) := by
  intro t ht
  have := List.all_eq_true.1 h t ht
  cases ho : ops[t]? with
  | none => rw [ho] at this; simp at this
  | some o =>
    rw [ho] at this
    simp only [Option.any_some] at this
    obtain ⟨k, hk, h2⟩ := Array.any_eq_true.1 this
    simp only [Bool.and_eq_true, Bool.or_eq_true, beq_iff_eq, List.contains_eq_mem, decide_eq_true_eq] at h2
    exact ⟨o, rfl, o.after[k], Array.getElem_mem hk, h2.1, h2.2⟩
end
section
variable {P : Program} {l : List Oper} {Q : Exit → Act → World → Prop} {md : Region.Mode} {A B C : World → Prop} {e1 e2 : Nat}
theorem at_list {i : Nat} {oi : Oper} {post : List Oper} (hi : l.drop i = oi :: post) : l.toArray[i]? = some oi := by
  have h1 : (l.drop i)[0]? = some oi := by rw [hi]; rfl
  rw [List.getElem?_drop, Nat.add_zero] at h1
  simpa using h1
/-- One operation taken first. -/
theorem take_ph (i : Nat) (v : Value) (T : List Nat) {oi : Oper} {post : List Oper} {fuel : Nat} {listed : Array Bool} {a : Act} {w : World} (hi : l.drop i = oi :: post)
    (hs : (Region.noSelect l.toArray && (Region.free md l.toArray listed i && ((Region.ready md l.toArray listed).contains i && (waits md l.toArray i T && (!(T.contains i) && (T.all (fun t => !(listed.getD t true)) && (!(i == e1) && !(i == e2)))))))) = true)
    (hQ : ∀ c a w, Q (.panic c) (a.put oi.dst v) w → Q (.panic c) a w) (hy : YieldsIf P l.toArray (PhT A e1 B e2 C T) oi v a) (hS : Ph A e1 B e2 C listed w)
    (h : Ph A e1 B e2 C (listed.setIfInBounds i true) w → wpAnyS P md l.toArray Q (Ph A e1 B e2 C) fuel (listed.setIfInBounds i true) (a.put oi.dst v) w) : wpAnyS P md l.toArray Q (Ph A e1 B e2 C) (fuel + 1) listed a w := by
  simp only [Bool.and_eq_true, Bool.not_eq_true'] at hs
  obtain ⟨s1, s2, s3, s4, s5, s6, s7, s8⟩ := hs
  have n1 : i ≠ e1 := by simpa using s7
  have n2 : i ≠ e2 := by simpa using s8
  refine wpAnyS_first (at_list hi) (Region.noSelect_spec s1) hQ n1 n2 T (waits_spec s4) (by simpa using s5) fuel listed a w (Region.free_spec (at_list hi) s2) (by simpa using s3) (fun t ht => ?_) hy hS (h ((Ph.skip n1 n2).2 hS))
  have := List.all_eq_true.1 s6 t ht
  simpa using this
/-- The one operation that may come up. -/
theorem ready_ph (i : Nat) {oi : Oper} {post : List Oper} {fuel : Nat} {listed : Array Bool} {a : Act} {w w' : World} {v : Value} (hi : l.drop i = oi :: post) (hr : Region.ready md l.toArray listed = [i]) (hw : Region.wanted oi (yielded l.toArray a.tmps) = true)
    (hrun : (execOp a.eval oi).run P w = .ok (.value v) w' ∨ ((execOp a.eval oi).run P w = .ok .skip w' ∧ v = undef)) (hS : Ph A e1 B e2 C (listed.setIfInBounds i true) w')
    (h : Ph A e1 B e2 C (listed.setIfInBounds i true) w' → wpAnyS P md l.toArray Q (Ph A e1 B e2 C) fuel (listed.setIfInBounds i true) (a.put oi.dst v) w') : wpAnyS P md l.toArray Q (Ph A e1 B e2 C) (fuel + 1) listed a w := by
  refine ⟨fun h0 => (by rw [hr] at h0; cases h0), fun j hj => ?_⟩
  rw [hr, List.mem_singleton] at hj
  subst hj
  refine wpOp_step (at_list hi) fun K' hK => ?_
  rw [if_pos hw]
  unfold Oper.wp
  rcases hrun with e | ⟨e, rfl⟩
  · rw [e]
    exact hK _ _ ⟨hS, h hS⟩
  · rw [e]
    exact hK _ _ ⟨hS, h hS⟩
theorem ready_store_ph (i : Nat) {oi : Oper} {post : List Oper} {fuel : Nat} {listed : Array Bool} {a : Act} {w w' : World} (hi : l.drop i = oi :: post) (hr : Region.ready md l.toArray listed = [i]) (hw : Region.wanted oi (yielded l.toArray a.tmps) = true)
    (t : TypeId) (x v : Operand) (ho : oi.op = .store t x v) (xv vv : Value) (hx : a.eval x = xv) (hv : a.eval v = vv) (hrun : (Instr.storeAt t xv vv).run P w = .ok () w') (hS : Ph A e1 B e2 C (listed.setIfInBounds i true) w')
    (h : Ph A e1 B e2 C (listed.setIfInBounds i true) w' → wpAnyS P md l.toArray Q (Ph A e1 B e2 C) fuel (listed.setIfInBounds i true) (a.put oi.dst undef) w') : wpAnyS P md l.toArray Q (Ph A e1 B e2 C) (fuel + 1) listed a w :=
  ready_ph i hi hr hw (.inr ⟨by unfold execOp; simp only [ho, hx, hv, hrun, Sem.run_bind, Sem.run_pure, Result.andThen_ok], rfl⟩) hS h
/-- A call. -/
theorem ready_call_ph (i : Nat) {oi : Oper} {post : List Oper} {fuel : Nat} {listed : Array Bool} {a : Act} {w : World} (hi : l.drop i = oi :: post) (hr : Region.ready md l.toArray listed = [i])
    (h : ∀ K' : Act → World → Prop, Shut (∀ a w, Ph A e1 B e2 C (listed.setIfInBounds i true) w → (Ph A e1 B e2 C (listed.setIfInBounds i true) w → wpAnyS P md l.toArray Q (Ph A e1 B e2 C) fuel (listed.setIfInBounds i true) a w) → K' a w) → if Region.wanted oi (yielded l.toArray a.tmps) = true then Oper.wp P oi a w K' Q else K' (a.put oi.dst undef) w) :
    wpAnyS P md l.toArray Q (Ph A e1 B e2 C) (fuel + 1) listed a w := by
  refine ⟨fun h0 => (by rw [hr] at h0; cases h0), fun j hj => ?_⟩
  rw [hr, List.mem_singleton] at hj
  subst hj
  exact wpOp_step (at_list hi) fun K' hK => h K' fun a w hS hW => hK a w ⟨hS, hW hS⟩
theorem done_ph {listed : Array Bool} {a : Act} {w : World} (hr : Region.ready md l.toArray listed = []) (h : Q .normal a w) : ∀ fuel, wpAnyS P md l.toArray Q (Ph A e1 B e2 C) fuel listed a w
  | 0 => ⟨hr, h⟩
  | _ + 1 => ⟨fun _ => h, by rw [hr]; simp⟩
theorem region_ph {id : Nat} {a : Act} {w : World} (hm : P.follows .mixedOrders = true) (hS : Ph A e1 B e2 C (Array.replicate l.length false) w.drew)
    (h : Ph A e1 B e2 C (Array.replicate l.length false) w.drew → wpAnyS P .any l.toArray Q (Ph A e1 B e2 C) l.length (Array.replicate l.length false) a w.drew) : (Code.region id l.toArray true).wp P Q a w := by
  refine wp_region_any hm (wpAny_of_S (S := Ph A e1 B e2 C) _ _ _ _ ?_)
  rw [List.size_toArray]
  exact h hS
end
end Go.Proofs.YtagamkahfiackaaGreatDoor

namespace Go.Proofs.YtagamkahfiackaaGreatDoor
open Go.RowKit Go.Sort

/-- What Insert leaves. -/
def InsToI (w : World) (v : Value) (n : Nat) (zs : List Value) (e : Ending) (w' : World) : Prop :=
  ∃ g c, e = .returned (.slice (some ⟨g, 0, none⟩) n c) ∧ w'.ownsRow 0 99 2 (.slice (some ⟨g, 0, none⟩) n c) n zs ∧ w.grownBy w' v.ownBlock ∧ (v.ownBlock = some g ∨ w.heap.size ≤ g)
theorem insToI_of {w w' : World} {v v' : Value} {n : Nat} {zs : List Value} (hn : 0 < n) (h : w'.ownsRow 0 99 2 v' n zs) (hg : w.grownBy w' v.ownBlock) (hb : v'.ownBlock = v.ownBlock ∨ v'.ownBlock = some w.heap.size) : InsToI w v n zs (.returned v') w' := by
  obtain ⟨g, c, cur, rfl, _⟩ := row_open h hn
  refine ⟨g, c, rfl, h, hg, ?_⟩
  rcases hb with e | e
  · exact .inl e.symm
  · simp only [Value.ownBlock, Option.some.injEq] at e
    exact .inr (Nat.le_of_eq e.symm)
set_option maxRecDepth 100000 in
set_option maxHeartbeats 2000000 in
theorem insI_end {w : World} {v : Value} {n : Nat} {xs ys : List Value} (h : w.ownsRow 0 99 2 v n xs) (hn : n ≤ 1000) (b : Nat) (hy : w.heap[b]? = some (.cells ys.toArray 99 (0, 0))) (hyl : ys.length = 1 * 2) (hy1 : ∀ u ∈ ys, u.oneCell' = true) :
    Calls Tryz.prog 66 #[v, .int .i64 n, .slice (some ⟨b, 0, none⟩) 1 1] w (InsToI w v (n + 1) (xs ++ ys)) := by
  obtain ⟨i0, hi0, hz0, hz1, hz2⟩ := info_parts infoVI
  obtain ⟨a, c, rfl, ha0, ha1, hnc, hcm⟩ := row_shape h
  have HR := Lib.hid (run_append_own_at (P := Tryz.prog) w 0 100 100 99 i0 _ 2 40 Tryz.underlying100 hi0 hz0 hz1 hz2 rfl (by decide) _ n xs h ⟨b, 0, none⟩ 1 1 ys hyl (row_news hy) hy1 (by unfold maxLen; omega) (by omega) (Nat.zero_le _))
  have hcm' : c ≤ 9223372036854775807 := by unfold maxLen at hcm; omega
  clear h hy
  cases a with
  | none =>
    obtain ⟨rfl, rfl⟩ := ha0 rfl
    obtain ⟨v', w', hr, h2, h3, _, h5⟩ := HR.out
    have HZ := Lib.hid (insToI_of (Nat.succ_pos _) h2 h3 h5)
    clear h2 h3 h5 HR
    go_enter Tryz.func66, Tryz.ntmps66
    go_wp2_with (at_builtin; refine Lib.wpList_append_run _ rfl _ _ _ _ rfl _ _ rfl rfl _ _ hr ?_)
    go_ret
    exact HZ.out
  | some ad =>
    obtain ⟨g, rfl⟩ := ha1 ad rfl
    obtain ⟨v', w', hr, h2, h3, _, h5⟩ := HR.out
    have HZ := Lib.hid (insToI_of (Nat.succ_pos _) h2 h3 h5)
    clear h2 h3 h5 HR ha0 ha1
    go_enter Tryz.func66, Tryz.ntmps66
    go_wp2_with (at_builtin; refine Lib.wpList_append_run _ rfl _ _ _ _ rfl _ _ rfl rfl _ _ hr ?_)
    all_goals (go_ret; exact HZ.out)
set_option maxRecDepth 100000 in
set_option maxHeartbeats 2000000 in
theorem insI_shift {w : World} {g n c i : Nat} {cur : Array Value} {xs ys : List Value} (hg : w.heap[g]? = some (.cells cur 99 (0, 0))) (hcs : cur.size = c * 2) (hx : cur.toList.take (n * 2) = xs) (hn : n ≤ 1000) (hi : i < n) (hroom : n + 1 ≤ c) (hcm : c ≤ maxLen) (b : Nat) (hy : w.heap[b]? = some (.cells ys.toArray 99 (0, 0))) (hyl : ys.length = 1 * 2) (hy1 : ∀ u ∈ ys, u.oneCell' = true) (hx1 : ∀ u ∈ xs, u.oneCell' = true) (hbg : b ≠ g) :
    Calls Tryz.prog 66 #[.slice (some ⟨g, 0, none⟩) n c, .int .i64 i, .slice (some ⟨b, 0, none⟩) 1 1] w (InsToI w (.slice (some ⟨g, 0, none⟩) n c) (n + 1) (xs.take (i * 2) ++ (ys ++ xs.drop (i * 2)))) := by
  obtain ⟨i0, hi0, hz0, hz1, hz2⟩ := info_parts infoVI
  have hcm' : c ≤ 9223372036854775807 := by unfold maxLen at hcm; omega
  have hxl : xs.length = n * 2 := by rw [← hx, List.length_take, Array.length_toList, hcs]; omega
  obtain ⟨A1, hA1⟩ : ∃ A1, A1 = cur.toList.take (i * 2 + 2) ++ xs.drop (i * 2) ++ cur.toList.drop (i * 2 + 2 + (xs.drop (i * 2)).length) := ⟨_, rfl⟩
  obtain ⟨A2, hA2⟩ : ∃ A2, A2 = A1.take (i * 2) ++ ys ++ A1.drop (i * 2 + ys.length) := ⟨_, rfl⟩
  obtain ⟨l1, l2, l3⟩ := shift_list hx hxl (by omega) (by omega) (by rw [Array.length_toList, hcs]; omega) hA1 hA2
  have hdl : (xs.drop (i * 2)).length = (n - i) * 2 := by rw [List.length_drop, hxl]; omega
  have hov : ∀ lb cb, (callFunc 81 #[.slice (some ⟨b, 0, none⟩) 1 1, .slice (some ⟨g, (i + 1) * 2, none⟩) lb cb]).run Tryz.prog w = .ok (.value (.bool false)) w := fun lb cb => by
    rw [run_callFunc_extern Tryz.func81 (by kernel_rfl) (by kernel_rfl) (by kernel_rfl) (e := Extern.SlicesOverlaps.overlaps #[100, 100] #[4]) (by kernel_rfl),
      Lib.run_overlaps_apart w 100 4 99 Tryz.underlying100 2 (fun w => by kernel_rfl) ⟨b, 0, none⟩ ⟨g, (i + 1) * 2, none⟩ 1 1 lb cb hbg 99 99 ys.length cur.size (by simp [World.shape?, hy]) (by simp [World.shape?, hg]) (by rw [hcs]; omega) (frozen_of hy) (frozen_of hy)]
    rfl
  have hgd : w.drew.heap[g]? = some (.cells cur 99 (0, 0)) := hg
  have hcp1 : ∀ ty dc sc, (Builtin.copy_ #[100, 100] ty #[.slice (some ⟨g, (i + 1) * 2, none⟩) (n - i) dc, .slice (some ⟨g, i * 2, none⟩) (n + 1 - i) sc]).run Tryz.prog w.drew = .ok (goInt (Nat.min (n + 1 - i) (n - i))) (w.drew.setRow g A1.toArray) := fun ty dc sc => by
    have := run_copy_sz w.drew 100 100 ty 99 i0 g ((i + 1) * 2) (n - i) dc ⟨g, i * 2, none⟩ (n + 1 - i) sc cur 99 (xs.drop (i * 2)) Tryz.underlying100 hi0 hgd (by rw [hdl, hz1]; congr 1; simp only [Nat.min_def]; split <;> omega)
      (fun j u hj => by
        rw [Addr.add_lit]
        rw [List.getElem?_drop] at hj
        refine cell_of hgd ?_
        rw [← hx, List.getElem?_take] at hj
        split at hj
        · simpa using hj
        · cases hj) (by rw [hdl, hcs]; omega) (fun u hu => hx1 u (List.mem_of_mem_drop hu))
    rw [this, hA1, show i * 2 + 2 = (i + 1) * 2 by omega]
  have hgd2 : (w.drew.setRow g A1.toArray).heap[g]? = some (.cells A1.toArray 99 (0, 0)) := setRow_heap _ _ _ _ _ _ hgd
  have hyd2 : (w.drew.setRow g A1.toArray).heap[b]? = some (.cells ys.toArray 99 (0, 0)) := (setRow_other _ _ _ _ hbg).trans hy
  have hcp2 : ∀ ty dc, (Builtin.copy_ #[100, 100] ty #[.slice (some ⟨g, i * 2, none⟩) (n + 1 - i) dc, .slice (some ⟨b, 0, none⟩) 1 1]).run Tryz.prog (w.drew.setRow g A1.toArray) = .ok (goInt (Nat.min 1 (n + 1 - i))) ((w.drew.setRow g A1.toArray).setRow g A2.toArray) := fun ty dc => by
    have := run_copy_sz (w.drew.setRow g A1.toArray) 100 100 ty 99 i0 g (i * 2) (n + 1 - i) dc ⟨b, 0, none⟩ 1 1 A1.toArray 99 ys Tryz.underlying100 hi0 hgd2 (by rw [hyl, hz1]; congr 1; simp only [Nat.min_def]; split <;> omega)
      (row_news hyd2) (by rw [hyl, List.size_toArray, l1, Array.length_toList, hcs]; omega) hy1
    rw [this, hA2]
    try simp only [Nat.mul_one]
  have HZ : Hid (InsToI w (.slice (some ⟨g, 0, none⟩) n c) (n + 1) (xs.take (i * 2) ++ (ys ++ xs.drop (i * 2))) (.returned (.slice (some ⟨g, 0, none⟩) (n + 1) c)) ((w.drew.setRow g A1.toArray).setRow g A2.toArray)) :=
    ⟨g, c, rfl, row_mk (setRow_heap _ _ _ _ _ _ hgd2) hroom hcm (by rw [List.size_toArray, l2, Array.length_toList, hcs]) (by rw [List.toList_toArray, ← l3, show (n + 1) * 2 = n * 2 + 2 by omega]), grown_trans (grown_drew w _) (grown_trans (grown_setRow _ g _) (grown_setRow _ g _)), .inl rfl⟩
  have hz2' : ¬ ((i : Int) = (n : Int)) := by omega
  have hw1 : IntKind.i64.wrap ((i : Int) + 1) = (i : Int) + 1 := by rw [IntKind.wrap_i64]; omega
  have hw2 : IntKind.i64.wrap ((n : Int) + 1) = (n : Int) + 1 := by rw [IntKind.wrap_i64]; omega
  have hb2 : ¬ (c = i + 1) := by omega
  have hb4 : ¬ (c = i) := by omega
  have hlt : ¬ ((c : Int) < (n : Int) + 1) := by omega
  have htn : ((i : Int) + 1).toNat = i + 1 := by omega
  have hb1 : (0 : Int) ≤ (i : Int) + 1 := by omega
  have hin : i ≤ n := by omega
  have hb3 : (i : Int) ≤ (n : Int) + 1 := by omega
  have hb5 : (i : Int) + 1 ≤ (n : Int) + 1 := by omega
  have htn2 : ((n : Int) + 1).toNat = n + 1 := by omega
  clear hA1 hA2 l1 l2 l3 hdl hgd hgd2 hyd2 hg hy hyl hxl hx hcs hy1 hx1 hcm
  generalize w.drew.setRow g A1.toArray = W1 at *
  generalize W1.setRow g A2.toArray = W2 at *
  go_enter Tryz.func66, Tryz.ntmps66
  go_wp2_with (simp only [hov])
  go_region_law (refine step_copy_run rfl _ _ 100 100 rfl (.slice (some ⟨g, (i + 1) * 2, none⟩) (n - i) (c - (i + 1))) (.slice (some ⟨g, i * 2, none⟩) (n + 1 - i) (c - i)) (by simp [Act.eval, Act.put]) (by simp [Act.eval, Act.put]) (hcp1 _ _ _) ?_)
  go_wp2_with (at_builtin; refine wpList_copy_run _ rfl _ _ 100 100 rfl _ _ rfl rfl (hcp2 _ _) ?_)
  go_ret
  exact HZ.out
set_option maxRecDepth 100000 in
set_option maxHeartbeats 2000000 in
theorem insI_grow {w : World} {g n c i : Nat} {cur : Array Value} {xs ys : List Value} (hg : w.heap[g]? = some (.cells cur 99 (0, 0))) (hcs : cur.size = c * 2) (hx : cur.toList.take (n * 2) = xs) (hn : n ≤ 1000) (hi : i < n) (hnc : n ≤ c) (hroom : c < n + 1) (b : Nat) (hy : w.heap[b]? = some (.cells ys.toArray 99 (0, 0))) (hyl : ys.length = 1 * 2) (hy1 : ∀ u ∈ ys, u.oneCell' = true) (hx1 : ∀ u ∈ xs, u.oneCell' = true) :
    Calls Tryz.prog 66 #[.slice (some ⟨g, 0, none⟩) n c, .int .i64 i, .slice (some ⟨b, 0, none⟩) 1 1] w (InsToI w (.slice (some ⟨g, 0, none⟩) n c) (n + 1) (xs.take (i * 2) ++ (ys ++ xs.drop (i * 2)))) := by
  obtain ⟨i0, hi0, hz0, hz1, hz2⟩ := info_parts infoVI
  have hxl : xs.length = n * 2 := by rw [← hx, List.length_take, Array.length_toList, hcs]; omega
  have hgl := blk_lt hg
  have hbl := blk_lt hy
  have hsrc : ∀ V : World, (∀ k, k < w.heap.size → V.heap[k]? = w.heap[k]?) → ∀ j u, xs[j]? = some u → V.cell? ⟨g, j, none⟩ = some u := fun V hV j u hj => by
    refine cell_of ((hV g hgl).trans hg) ?_
    rw [← hx, List.getElem?_take] at hj
    split at hj
    · simpa using hj
    · cases hj
  have hold : (Builtin.firstCells i0.size i (.slice (some ⟨g, 0, none⟩) i c)).run Tryz.prog w.drew = .ok (xs.take (i * 2)).toArray w.drew := by
    rw [hz1]
    exact run_firstCells_some w.drew 2 i ⟨g, 0, none⟩ i c (xs.take (i * 2)) (by rw [List.length_take]; omega) (fun j u hj => by
      rw [Addr.add_lit, Nat.zero_add]
      rw [List.getElem?_take] at hj
      split at hj
      · exact hsrc w.drew (fun _ _ => rfl) j u hj
      · cases hj)
  have hkk : (n : Int) + 1 - (i : Int) = ((n + 1 - i : Nat) : Int) := by omega
  have hik : i + (n + 1 - i) = n + 1 := by omega
  obtain ⟨G, hG⟩ : ∃ G, G = grownCap w (n + 1) c 99 := ⟨_, rfl⟩
  obtain ⟨ROW, hROW⟩ : ∃ ROW : Array Value, ROW = (xs.take (i * 2)).toArray ++ Builtin.zeroCells (Value.cells (.agg #[.string ⟨#[]⟩, .slice none 0 0])) (n + 1 - i) ++ Builtin.zeroCells (Value.cells (.agg #[.string ⟨#[]⟩, .slice none 0 0])) (G - (n + 1)) := ⟨_, rfl⟩
  have hGn : n + 1 ≤ G := by rw [hG]; exact grownCap_ge w _ _ _
  have hGm : G ≤ maxLen := by rw [hG]; exact grownCap_le_maxLen w (n + 1) c 99 (by unfold maxLen; omega)
  have hzs : (Value.cells (.agg #[.string ⟨#[]⟩, .slice none 0 0])).size = 2 := rfl
  have hRl : ROW.size = G * 2 := by
    rw [hROW, Array.size_append, Array.size_append, size_zeroCells, size_zeroCells, List.size_toArray, List.length_take, hxl, hzs]
    omega
  have hRt : ROW.toList.take (i * 2) = xs.take (i * 2) := by
    rw [hROW, Array.toList_append, Array.toList_append, List.toList_toArray, List.append_assoc]
    exact List.take_left' (by rw [List.length_take]; omega)
  obtain ⟨R1, hR1⟩ : ∃ R1, R1 = ROW.toList.take (i * 2) ++ ys ++ ROW.toList.drop (i * 2 + ys.length) := ⟨_, rfl⟩
  obtain ⟨R2, hR2⟩ : ∃ R2, R2 = R1.take (i * 2 + 2) ++ xs.drop (i * 2) ++ R1.drop (i * 2 + 2 + (xs.drop (i * 2)).length) := ⟨_, rfl⟩
  obtain ⟨l1, l2, l3⟩ := grow_list hxl (by omega) (by omega) hRt (by rw [Array.length_toList, hRl]; omega) hR1 hR2
  have hdl : (xs.drop (i * 2)).length = (n - i) * 2 := by rw [List.length_drop, hxl]; omega
  obtain ⟨N, hN⟩ : ∃ N, N = w.heap.size := ⟨_, rfl⟩
  obtain ⟨W1, hW1⟩ : ∃ W1, W1 = w.drew.alloc (.cells ROW 99) := ⟨_, rfl⟩
  obtain ⟨W2, hW2⟩ : ∃ W2, W2 = W1.setRow N R1.toArray := ⟨_, rfl⟩
  obtain ⟨W3, hW3⟩ : ∃ W3, W3 = W2.drew.setRow N R2.toArray := ⟨_, rfl⟩
  have b1 : W1.heap[N]? = some (.cells ROW 99 (0, 0)) := by rw [hW1, hN]; exact new_blk w.drew _
  have o1 : Below w.heap.size w W1 := by rw [hW1]; exact below_step (below_drew w) (below_alloc w.drew _)
  have b2 : W2.heap[N]? = some (.cells R1.toArray 99 (0, 0)) := by rw [hW2]; exact setRow_heap _ _ _ _ _ _ b1
  have o2 : Below w.heap.size w W2 := by rw [hW2]; exact below_setRow o1 (by omega) _
  have b3 : W3.heap[N]? = some (.cells R2.toArray 99 (0, 0)) := by rw [hW3]; exact setRow_heap _ _ _ _ _ _ (show W2.drew.heap[N]? = _ from b2)
  have o3 : Below w.heap.size w W3 := by rw [hW3]; exact below_setRow o2.drew (by omega) _
  have hrz : ∀ ty, (Builtin.append_ #[100, 3] ty #[.slice (some ⟨g, 0, none⟩) i c, .int .i64 ((n : Int) + 1 - (i : Int))]).run Tryz.prog w = .ok (.slice (some ⟨N, 0, none⟩) (n + 1) G) W1 := fun ty => by
    have h := Lib.run_append_grow_zeros w 100 3 ty 99 i0 _ .i64 .i64 Tryz.underlying100 Tryz.underlying3 hi0 hz0 (some ⟨g, 0, none⟩) i c (xs.take (i * 2)) hold (n + 1 - i) (by omega) (by omega) (by omega) (by omega) (by rw [hz2]; omega) (by rw [hz2, hik]; exact growslice_fits hroom (by omega))
    rw [hik, ← hG, ← hROW, ← hN, ← hW1] at h
    rw [hkk]
    exact h
  have hcpA : ∀ ty dc, (Builtin.copy_ #[100, 100] ty #[.slice (some ⟨N, i * 2, none⟩) (n + 1 - i) dc, .slice (some ⟨b, 0, none⟩) 1 1]).run Tryz.prog W1 = .ok (goInt (Nat.min 1 (n + 1 - i))) W2 := fun ty dc => by
    have := run_copy_sz W1 100 100 ty 99 i0 N (i * 2) (n + 1 - i) dc ⟨b, 0, none⟩ 1 1 ROW 99 ys Tryz.underlying100 hi0 b1 (by rw [hyl, hz1]; congr 1; simp only [Nat.min_def]; split <;> omega)
      (row_news ((o1.block b hbl).trans hy)) (by rw [hyl, hRl]; omega) hy1
    rw [this, hW2, hR1]
    try simp only [Nat.mul_one]
  have hcpB : ∀ ty dc sc, (Builtin.copy_ #[100, 100] ty #[.slice (some ⟨N, (i + 1) * 2, none⟩) (n - i) dc, .slice (some ⟨g, i * 2, none⟩) (n - i) sc]).run Tryz.prog W2.drew = .ok (goInt (Nat.min (n - i) (n - i))) W3 := fun ty dc sc => by
    have := run_copy_sz W2.drew 100 100 ty 99 i0 N ((i + 1) * 2) (n - i) dc ⟨g, i * 2, none⟩ (n - i) sc R1.toArray 99 (xs.drop (i * 2)) Tryz.underlying100 hi0 b2 (by rw [hdl, hz1]; congr 1; simp only [Nat.min_def]; split <;> omega)
      (fun j u hj => by
        rw [Addr.add_lit]
        rw [List.getElem?_drop] at hj
        have := hsrc W2.drew (fun k hk => o2.block k hk) (i * 2 + j) u hj
        simpa using this) (by rw [hdl, List.size_toArray, l1, Array.length_toList, hRl]; omega) (fun u hu => hx1 u (List.mem_of_mem_drop hu))
    rw [this, hW3, hR2, show i * 2 + 2 = (i + 1) * 2 by omega]
  have HZ : Hid (InsToI w (.slice (some ⟨g, 0, none⟩) n c) (n + 1) (xs.take (i * 2) ++ (ys ++ xs.drop (i * 2))) (.returned (.slice (some ⟨N, 0, none⟩) (n + 1) G)) W3) :=
    ⟨N, G, rfl, row_mk b3 hGn hGm (by rw [List.size_toArray, l2, Array.length_toList, hRl]) (by rw [List.toList_toArray, ← l3, show (n + 1) * 2 = n * 2 + 2 by omega]), grown_below _ o3, .inr (by omega)⟩
  have hz2' : ¬ ((i : Int) = (n : Int)) := by omega
  have hw1 : IntKind.i64.wrap ((i : Int) + 1) = (i : Int) + 1 := by rw [IntKind.wrap_i64]; omega
  have hw2 : IntKind.i64.wrap ((n : Int) + 1) = (n : Int) + 1 := by rw [IntKind.wrap_i64]; omega
  have hw3 : IntKind.i64.wrap ((n : Int) + 1 - (i : Int)) = (n : Int) + 1 - (i : Int) := by rw [IntKind.wrap_i64]; omega
  have hb2 : ¬ (G = i + 1) := by omega
  have hb6 : ¬ (G = i) := by omega
  have hb4 : ¬ (c = i) := by omega
  have hlt : ((c : Int) < (n : Int) + 1) := by omega
  have htn : ((i : Int) + 1).toNat = i + 1 := by omega
  have hb1 : (0 : Int) ≤ (i : Int) + 1 := by omega
  have hin : i ≤ n := by omega
  have hb3 : (i : Int) ≤ (n : Int) + 1 := by omega
  have hb5 : (i : Int) + 1 ≤ (n : Int) + 1 := by omega
  have hG6 : G ≤ 9223372036854775807 := by unfold maxLen at hGm; omega
  clear hN hR1 hR2 l1 l2 l3 hdl hg hy hyl hxl hx hcs hy1 hx1 hRl hRt hROW hG hold hsrc hkk hik hW1 hW2 hW3 b1 b2 b3 o1 o2 o3 hGm hzs
  go_enter Tryz.func66, Tryz.ntmps66
  go_wp2_with (first
    | (at_builtin; refine Lib.wpList_append_run _ rfl _ _ _ _ rfl _ _ rfl rfl _ _ (hrz _) ?_)
    | (at_builtin; refine wpList_copy_run _ rfl _ _ 100 100 rfl _ _ rfl rfl (hcpA _ _) ?_))
  go_region_law (refine step_copy_run rfl _ _ 100 100 rfl (.slice (some ⟨N, (i + 1) * 2, none⟩) (n - i) (G - (i + 1))) (.slice (some ⟨g, i * 2, none⟩) (n - i) (c - i)) (by simp [Act.eval, Act.put]) (by simp [Act.eval, Act.put]) (hcpB _ _ _) ?_)
  go_wp2
  go_ret
  exact HZ.out
/-- slices.Insert of one element. -/
theorem insI_ {w : World} {v : Value} {n i : Nat} {xs ys : List Value} (h : w.ownsRow 0 99 2 v n xs) (hi : i ≤ n) (hn : n ≤ 1000) (b : Nat) (hy : w.heap[b]? = some (.cells ys.toArray 99 (0, 0))) (hyl : ys.length = 1 * 2) (hy1 : ∀ u ∈ ys, u.oneCell' = true) (hx1 : ∀ u ∈ xs, u.oneCell' = true) (hb : v.ownBlock ≠ some b) :
    Calls Tryz.prog 66 #[v, .int .i64 i, .slice (some ⟨b, 0, none⟩) 1 1] w (InsToI w v (n + 1) (xs.take (i * 2) ++ (ys ++ xs.drop (i * 2)))) := by
  by_cases he : i = n
  · subst he
    have := insI_end h hn b hy hyl hy1
    have hl := h.1
    rw [List.take_of_length_le (by omega), List.drop_of_length_le (by omega), List.append_nil]
    exact this
  · obtain ⟨g, c, cur, rfl, hg, hnc, hcm, hcs, hx⟩ := row_open h (by omega)
    by_cases hr : n + 1 ≤ c
    · exact insI_shift hg hcs hx hn (by omega) hr hcm b hy hyl hy1 hx1 fun e => hb (by rw [e]; rfl)
    · exact insI_grow hg hcs hx hn (by omega) hnc (by omega) b hy hyl hy1 hx1
end Go.Proofs.YtagamkahfiackaaGreatDoor

namespace Go.Proofs.YtagamkahfiackaaGreatDoor
open Go.RowKit Go.Sort

/-- What Insert leaves. -/
def InsToP (w : World) (v : Value) (n : Nat) (zs : List Value) (e : Ending) (w' : World) : Prop :=
  ∃ g c, e = .returned (.slice (some ⟨g, 0, none⟩) n c) ∧ w'.ownsRow 0 82 1 (.slice (some ⟨g, 0, none⟩) n c) n zs ∧ w.grownBy w' v.ownBlock ∧ (v.ownBlock = some g ∨ w.heap.size ≤ g)
theorem insToP_of {w w' : World} {v v' : Value} {n : Nat} {zs : List Value} (hn : 0 < n) (h : w'.ownsRow 0 82 1 v' n zs) (hg : w.grownBy w' v.ownBlock) (hb : v'.ownBlock = v.ownBlock ∨ v'.ownBlock = some w.heap.size) : InsToP w v n zs (.returned v') w' := by
  obtain ⟨g, c, cur, rfl, _⟩ := row_open h hn
  refine ⟨g, c, rfl, h, hg, ?_⟩
  rcases hb with e | e
  · exact .inl e.symm
  · simp only [Value.ownBlock, Option.some.injEq] at e
    exact .inr (Nat.le_of_eq e.symm)
set_option maxRecDepth 100000 in
set_option maxHeartbeats 2000000 in
theorem insP_end {w : World} {v : Value} {n : Nat} {xs ys : List Value} (h : w.ownsRow 0 82 1 v n xs) (hn : n ≤ 1000) (b : Nat) (hy : w.heap[b]? = some (.cells ys.toArray 82 (0, 0))) (hyl : ys.length = 1 * 1) (hy1 : ∀ u ∈ ys, u.oneCell' = true) :
    Calls Tryz.prog 70 #[v, .int .i64 n, .slice (some ⟨b, 0, none⟩) 1 1] w (InsToP w v (n + 1) (xs ++ ys)) := by
  obtain ⟨i0, hi0, hz0, hz1, hz2⟩ := info_parts infoVP
  obtain ⟨a, c, rfl, ha0, ha1, hnc, hcm⟩ := row_shape h
  have HR := Lib.hid (run_append_own_at (P := Tryz.prog) w 0 101 101 82 i0 _ 1 8 Tryz.underlying101 hi0 hz0 hz1 hz2 rfl (by decide) _ n xs h ⟨b, 0, none⟩ 1 1 ys hyl (row_news hy) hy1 (by unfold maxLen; omega) (by omega) (Nat.zero_le _))
  have hcm' : c ≤ 9223372036854775807 := by unfold maxLen at hcm; omega
  clear h hy
  cases a with
  | none =>
    obtain ⟨rfl, rfl⟩ := ha0 rfl
    obtain ⟨v', w', hr, h2, h3, _, h5⟩ := HR.out
    have HZ := Lib.hid (insToP_of (Nat.succ_pos _) h2 h3 h5)
    clear h2 h3 h5 HR
    go_enter Tryz.func70, Tryz.ntmps70
    go_wp2_with (at_builtin; refine Lib.wpList_append_run _ rfl _ _ _ _ rfl _ _ rfl rfl _ _ hr ?_)
    go_ret
    exact HZ.out
  | some ad =>
    obtain ⟨g, rfl⟩ := ha1 ad rfl
    obtain ⟨v', w', hr, h2, h3, _, h5⟩ := HR.out
    have HZ := Lib.hid (insToP_of (Nat.succ_pos _) h2 h3 h5)
    clear h2 h3 h5 HR ha0 ha1
    go_enter Tryz.func70, Tryz.ntmps70
    go_wp2_with (at_builtin; refine Lib.wpList_append_run _ rfl _ _ _ _ rfl _ _ rfl rfl _ _ hr ?_)
    all_goals (go_ret; exact HZ.out)
set_option maxRecDepth 100000 in
set_option maxHeartbeats 2000000 in
theorem insP_shift {w : World} {g n c i : Nat} {cur : Array Value} {xs ys : List Value} (hg : w.heap[g]? = some (.cells cur 82 (0, 0))) (hcs : cur.size = c * 1) (hx : cur.toList.take (n * 1) = xs) (hn : n ≤ 1000) (hi : i < n) (hroom : n + 1 ≤ c) (hcm : c ≤ maxLen) (b : Nat) (hy : w.heap[b]? = some (.cells ys.toArray 82 (0, 0))) (hyl : ys.length = 1 * 1) (hy1 : ∀ u ∈ ys, u.oneCell' = true) (hx1 : ∀ u ∈ xs, u.oneCell' = true) (hbg : b ≠ g) :
    Calls Tryz.prog 70 #[.slice (some ⟨g, 0, none⟩) n c, .int .i64 i, .slice (some ⟨b, 0, none⟩) 1 1] w (InsToP w (.slice (some ⟨g, 0, none⟩) n c) (n + 1) (xs.take (i * 1) ++ (ys ++ xs.drop (i * 1)))) := by
  obtain ⟨i0, hi0, hz0, hz1, hz2⟩ := info_parts infoVP
  have hcm' : c ≤ 9223372036854775807 := by unfold maxLen at hcm; omega
  have hxl : xs.length = n * 1 := by rw [← hx, List.length_take, Array.length_toList, hcs]; omega
  obtain ⟨A1, hA1⟩ : ∃ A1, A1 = cur.toList.take (i * 1 + 1) ++ xs.drop (i * 1) ++ cur.toList.drop (i * 1 + 1 + (xs.drop (i * 1)).length) := ⟨_, rfl⟩
  obtain ⟨A2, hA2⟩ : ∃ A2, A2 = A1.take (i * 1) ++ ys ++ A1.drop (i * 1 + ys.length) := ⟨_, rfl⟩
  obtain ⟨l1, l2, l3⟩ := shift_list hx hxl (by omega) (by omega) (by rw [Array.length_toList, hcs]; omega) hA1 hA2
  have hdl : (xs.drop (i * 1)).length = (n - i) * 1 := by rw [List.length_drop, hxl]; omega
  have hov : ∀ lb cb, (callFunc 83 #[.slice (some ⟨b, 0, none⟩) 1 1, .slice (some ⟨g, (i + 1), none⟩) lb cb]).run Tryz.prog w = .ok (.value (.bool false)) w := fun lb cb => by
    rw [run_callFunc_extern Tryz.func83 (by kernel_rfl) (by kernel_rfl) (by kernel_rfl) (e := Extern.SlicesOverlaps.overlaps #[101, 101] #[4]) (by kernel_rfl),
      Lib.run_overlaps_apart w 101 4 82 Tryz.underlying101 1 (fun w => by kernel_rfl) ⟨b, 0, none⟩ ⟨g, (i + 1), none⟩ 1 1 lb cb hbg 82 82 ys.length cur.size (by simp [World.shape?, hy]) (by simp [World.shape?, hg]) (by rw [hcs]; omega) (frozen_of hy) (frozen_of hy)]
    rfl
  have hgd : w.drew.heap[g]? = some (.cells cur 82 (0, 0)) := hg
  have hcp1 : ∀ ty dc sc, (Builtin.copy_ #[101, 101] ty #[.slice (some ⟨g, (i + 1), none⟩) (n - i) dc, .slice (some ⟨g, i, none⟩) (n + 1 - i) sc]).run Tryz.prog w.drew = .ok (goInt (Nat.min (n + 1 - i) (n - i))) (w.drew.setRow g A1.toArray) := fun ty dc sc => by
    have := run_copy_sz w.drew 101 101 ty 82 i0 g ((i + 1)) (n - i) dc ⟨g, i, none⟩ (n + 1 - i) sc cur 82 (xs.drop (i * 1)) Tryz.underlying101 hi0 hgd (by rw [hdl, hz1]; congr 1; simp only [Nat.min_def]; split <;> omega)
      (fun j u hj => by
        rw [Addr.add_lit]
        rw [List.getElem?_drop] at hj
        refine cell_of hgd ?_
        rw [← hx, List.getElem?_take] at hj
        split at hj
        · simpa using hj
        · cases hj) (by rw [hdl, hcs]; omega) (fun u hu => hx1 u (List.mem_of_mem_drop hu))
    rw [this, hA1, show i * 1 + 1 = (i + 1) by omega]
  have hgd2 : (w.drew.setRow g A1.toArray).heap[g]? = some (.cells A1.toArray 82 (0, 0)) := setRow_heap _ _ _ _ _ _ hgd
  have hyd2 : (w.drew.setRow g A1.toArray).heap[b]? = some (.cells ys.toArray 82 (0, 0)) := (setRow_other _ _ _ _ hbg).trans hy
  have hcp2 : ∀ ty dc, (Builtin.copy_ #[101, 101] ty #[.slice (some ⟨g, i, none⟩) (n + 1 - i) dc, .slice (some ⟨b, 0, none⟩) 1 1]).run Tryz.prog (w.drew.setRow g A1.toArray) = .ok (goInt (Nat.min 1 (n + 1 - i))) ((w.drew.setRow g A1.toArray).setRow g A2.toArray) := fun ty dc => by
    have := run_copy_sz (w.drew.setRow g A1.toArray) 101 101 ty 82 i0 g (i) (n + 1 - i) dc ⟨b, 0, none⟩ 1 1 A1.toArray 82 ys Tryz.underlying101 hi0 hgd2 (by rw [hyl, hz1]; congr 1; simp only [Nat.min_def]; split <;> omega)
      (row_news hyd2) (by rw [hyl, List.size_toArray, l1, Array.length_toList, hcs]; omega) hy1
    rw [this, hA2]
    try simp only [Nat.mul_one]
  have HZ : Hid (InsToP w (.slice (some ⟨g, 0, none⟩) n c) (n + 1) (xs.take (i * 1) ++ (ys ++ xs.drop (i * 1))) (.returned (.slice (some ⟨g, 0, none⟩) (n + 1) c)) ((w.drew.setRow g A1.toArray).setRow g A2.toArray)) :=
    ⟨g, c, rfl, row_mk (setRow_heap _ _ _ _ _ _ hgd2) hroom hcm (by rw [List.size_toArray, l2, Array.length_toList, hcs]) (by rw [List.toList_toArray, ← l3, show (n + 1) * 1 = n * 1 + 1 by omega]), grown_trans (grown_drew w _) (grown_trans (grown_setRow _ g _) (grown_setRow _ g _)), .inl rfl⟩
  have hz2' : ¬ ((i : Int) = (n : Int)) := by omega
  have hw1 : IntKind.i64.wrap ((i : Int) + 1) = (i : Int) + 1 := by rw [IntKind.wrap_i64]; omega
  have hw2 : IntKind.i64.wrap ((n : Int) + 1) = (n : Int) + 1 := by rw [IntKind.wrap_i64]; omega
  have hb2 : ¬ (c = i + 1) := by omega
  have hb4 : ¬ (c = i) := by omega
  have hlt : ¬ ((c : Int) < (n : Int) + 1) := by omega
  have htn : ((i : Int) + 1).toNat = i + 1 := by omega
  have hb1 : (0 : Int) ≤ (i : Int) + 1 := by omega
  have hin : i ≤ n := by omega
  have hb3 : (i : Int) ≤ (n : Int) + 1 := by omega
  have hb5 : (i : Int) + 1 ≤ (n : Int) + 1 := by omega
  have htn2 : ((n : Int) + 1).toNat = n + 1 := by omega
  clear hA1 hA2 l1 l2 l3 hdl hgd hgd2 hyd2 hg hy hyl hxl hx hcs hy1 hx1 hcm
  generalize w.drew.setRow g A1.toArray = W1 at *
  generalize W1.setRow g A2.toArray = W2 at *
  go_enter Tryz.func70, Tryz.ntmps70
  go_wp2_with (simp only [hov])
  go_region_law (refine step_copy_run rfl _ _ 101 101 rfl (.slice (some ⟨g, (i + 1), none⟩) (n - i) (c - (i + 1))) (.slice (some ⟨g, i, none⟩) (n + 1 - i) (c - i)) (by simp [Act.eval, Act.put]) (by simp [Act.eval, Act.put]) (hcp1 _ _ _) ?_)
  go_wp2_with (at_builtin; refine wpList_copy_run _ rfl _ _ 101 101 rfl _ _ rfl rfl (hcp2 _ _) ?_)
  go_ret
  exact HZ.out
set_option maxRecDepth 100000 in
set_option maxHeartbeats 2000000 in
theorem insP_grow {w : World} {g n c i : Nat} {cur : Array Value} {xs ys : List Value} (hg : w.heap[g]? = some (.cells cur 82 (0, 0))) (hcs : cur.size = c * 1) (hx : cur.toList.take (n * 1) = xs) (hn : n ≤ 1000) (hi : i < n) (hnc : n ≤ c) (hroom : c < n + 1) (b : Nat) (hy : w.heap[b]? = some (.cells ys.toArray 82 (0, 0))) (hyl : ys.length = 1 * 1) (hy1 : ∀ u ∈ ys, u.oneCell' = true) (hx1 : ∀ u ∈ xs, u.oneCell' = true) :
    Calls Tryz.prog 70 #[.slice (some ⟨g, 0, none⟩) n c, .int .i64 i, .slice (some ⟨b, 0, none⟩) 1 1] w (InsToP w (.slice (some ⟨g, 0, none⟩) n c) (n + 1) (xs.take (i * 1) ++ (ys ++ xs.drop (i * 1)))) := by
  obtain ⟨i0, hi0, hz0, hz1, hz2⟩ := info_parts infoVP
  have hxl : xs.length = n * 1 := by rw [← hx, List.length_take, Array.length_toList, hcs]; omega
  have hgl := blk_lt hg
  have hbl := blk_lt hy
  have hsrc : ∀ V : World, (∀ k, k < w.heap.size → V.heap[k]? = w.heap[k]?) → ∀ j u, xs[j]? = some u → V.cell? ⟨g, j, none⟩ = some u := fun V hV j u hj => by
    refine cell_of ((hV g hgl).trans hg) ?_
    rw [← hx, List.getElem?_take] at hj
    split at hj
    · simpa using hj
    · cases hj
  have hold : (Builtin.firstCells i0.size i (.slice (some ⟨g, 0, none⟩) i c)).run Tryz.prog w.drew = .ok (xs.take (i * 1)).toArray w.drew := by
    rw [hz1]
    exact run_firstCells_some w.drew 1 i ⟨g, 0, none⟩ i c (xs.take (i * 1)) (by rw [List.length_take]; omega) (fun j u hj => by
      rw [Addr.add_lit, Nat.zero_add]
      rw [List.getElem?_take] at hj
      split at hj
      · exact hsrc w.drew (fun _ _ => rfl) j u hj
      · cases hj)
  have hkk : (n : Int) + 1 - (i : Int) = ((n + 1 - i : Nat) : Int) := by omega
  have hik : i + (n + 1 - i) = n + 1 := by omega
  obtain ⟨G, hG⟩ : ∃ G, G = grownCap w (n + 1) c 82 := ⟨_, rfl⟩
  obtain ⟨ROW, hROW⟩ : ∃ ROW : Array Value, ROW = (xs.take (i * 1)).toArray ++ Builtin.zeroCells (Value.cells (.pointer none)) (n + 1 - i) ++ Builtin.zeroCells (Value.cells (.pointer none)) (G - (n + 1)) := ⟨_, rfl⟩
  have hGn : n + 1 ≤ G := by rw [hG]; exact grownCap_ge w _ _ _
  have hGm : G ≤ maxLen := by rw [hG]; exact grownCap_le_maxLen w (n + 1) c 82 (by unfold maxLen; omega)
  have hzs : (Value.cells (.pointer none)).size = 1 := rfl
  have hRl : ROW.size = G * 1 := by
    rw [hROW, Array.size_append, Array.size_append, size_zeroCells, size_zeroCells, List.size_toArray, List.length_take, hxl, hzs]
    omega
  have hRt : ROW.toList.take (i * 1) = xs.take (i * 1) := by
    rw [hROW, Array.toList_append, Array.toList_append, List.toList_toArray, List.append_assoc]
    exact List.take_left' (by rw [List.length_take]; omega)
  obtain ⟨R1, hR1⟩ : ∃ R1, R1 = ROW.toList.take (i * 1) ++ ys ++ ROW.toList.drop (i * 1 + ys.length) := ⟨_, rfl⟩
  obtain ⟨R2, hR2⟩ : ∃ R2, R2 = R1.take (i * 1 + 1) ++ xs.drop (i * 1) ++ R1.drop (i * 1 + 1 + (xs.drop (i * 1)).length) := ⟨_, rfl⟩
  obtain ⟨l1, l2, l3⟩ := grow_list hxl (by omega) (by omega) hRt (by rw [Array.length_toList, hRl]; omega) hR1 hR2
  have hdl : (xs.drop (i * 1)).length = (n - i) * 1 := by rw [List.length_drop, hxl]; omega
  obtain ⟨N, hN⟩ : ∃ N, N = w.heap.size := ⟨_, rfl⟩
  obtain ⟨W1, hW1⟩ : ∃ W1, W1 = w.drew.alloc (.cells ROW 82) := ⟨_, rfl⟩
  obtain ⟨W2, hW2⟩ : ∃ W2, W2 = W1.setRow N R1.toArray := ⟨_, rfl⟩
  obtain ⟨W3, hW3⟩ : ∃ W3, W3 = W2.drew.setRow N R2.toArray := ⟨_, rfl⟩
  have b1 : W1.heap[N]? = some (.cells ROW 82 (0, 0)) := by rw [hW1, hN]; exact new_blk w.drew _
  have o1 : Below w.heap.size w W1 := by rw [hW1]; exact below_step (below_drew w) (below_alloc w.drew _)
  have b2 : W2.heap[N]? = some (.cells R1.toArray 82 (0, 0)) := by rw [hW2]; exact setRow_heap _ _ _ _ _ _ b1
  have o2 : Below w.heap.size w W2 := by rw [hW2]; exact below_setRow o1 (by omega) _
  have b3 : W3.heap[N]? = some (.cells R2.toArray 82 (0, 0)) := by rw [hW3]; exact setRow_heap _ _ _ _ _ _ (show W2.drew.heap[N]? = _ from b2)
  have o3 : Below w.heap.size w W3 := by rw [hW3]; exact below_setRow o2.drew (by omega) _
  have hrz : ∀ ty, (Builtin.append_ #[101, 3] ty #[.slice (some ⟨g, 0, none⟩) i c, .int .i64 ((n : Int) + 1 - (i : Int))]).run Tryz.prog w = .ok (.slice (some ⟨N, 0, none⟩) (n + 1) G) W1 := fun ty => by
    have h := Lib.run_append_grow_zeros w 101 3 ty 82 i0 _ .i64 .i64 Tryz.underlying101 Tryz.underlying3 hi0 hz0 (some ⟨g, 0, none⟩) i c (xs.take (i * 1)) hold (n + 1 - i) (by omega) (by omega) (by omega) (by omega) (by rw [hz2]; omega) (by rw [hz2, hik]; exact growslice_fits hroom (by omega))
    rw [hik, ← hG, ← hROW, ← hN, ← hW1] at h
    rw [hkk]
    exact h
  have hcpA : ∀ ty dc, (Builtin.copy_ #[101, 101] ty #[.slice (some ⟨N, i, none⟩) (n + 1 - i) dc, .slice (some ⟨b, 0, none⟩) 1 1]).run Tryz.prog W1 = .ok (goInt (Nat.min 1 (n + 1 - i))) W2 := fun ty dc => by
    have := run_copy_sz W1 101 101 ty 82 i0 N (i) (n + 1 - i) dc ⟨b, 0, none⟩ 1 1 ROW 82 ys Tryz.underlying101 hi0 b1 (by rw [hyl, hz1]; congr 1; simp only [Nat.min_def]; split <;> omega)
      (row_news ((o1.block b hbl).trans hy)) (by rw [hyl, hRl]; omega) hy1
    rw [this, hW2, hR1]
    try simp only [Nat.mul_one]
  have hcpB : ∀ ty dc sc, (Builtin.copy_ #[101, 101] ty #[.slice (some ⟨N, (i + 1), none⟩) (n - i) dc, .slice (some ⟨g, i, none⟩) (n - i) sc]).run Tryz.prog W2.drew = .ok (goInt (Nat.min (n - i) (n - i))) W3 := fun ty dc sc => by
    have := run_copy_sz W2.drew 101 101 ty 82 i0 N ((i + 1)) (n - i) dc ⟨g, i, none⟩ (n - i) sc R1.toArray 82 (xs.drop (i * 1)) Tryz.underlying101 hi0 b2 (by rw [hdl, hz1]; congr 1; simp only [Nat.min_def]; split <;> omega)
      (fun j u hj => by
        rw [Addr.add_lit]
        rw [List.getElem?_drop] at hj
        have := hsrc W2.drew (fun k hk => o2.block k hk) (i * 1 + j) u hj
        simpa using this) (by rw [hdl, List.size_toArray, l1, Array.length_toList, hRl]; omega) (fun u hu => hx1 u (List.mem_of_mem_drop hu))
    rw [this, hW3, hR2, show i * 1 + 1 = (i + 1) by omega]
  have HZ : Hid (InsToP w (.slice (some ⟨g, 0, none⟩) n c) (n + 1) (xs.take (i * 1) ++ (ys ++ xs.drop (i * 1))) (.returned (.slice (some ⟨N, 0, none⟩) (n + 1) G)) W3) :=
    ⟨N, G, rfl, row_mk b3 hGn hGm (by rw [List.size_toArray, l2, Array.length_toList, hRl]) (by rw [List.toList_toArray, ← l3, show (n + 1) * 1 = n * 1 + 1 by omega]), grown_below _ o3, .inr (by omega)⟩
  have hz2' : ¬ ((i : Int) = (n : Int)) := by omega
  have hw1 : IntKind.i64.wrap ((i : Int) + 1) = (i : Int) + 1 := by rw [IntKind.wrap_i64]; omega
  have hw2 : IntKind.i64.wrap ((n : Int) + 1) = (n : Int) + 1 := by rw [IntKind.wrap_i64]; omega
  have hw3 : IntKind.i64.wrap ((n : Int) + 1 - (i : Int)) = (n : Int) + 1 - (i : Int) := by rw [IntKind.wrap_i64]; omega
  have hb2 : ¬ (G = i + 1) := by omega
  have hb6 : ¬ (G = i) := by omega
  have hb4 : ¬ (c = i) := by omega
  have hlt : ((c : Int) < (n : Int) + 1) := by omega
  have htn : ((i : Int) + 1).toNat = i + 1 := by omega
  have hb1 : (0 : Int) ≤ (i : Int) + 1 := by omega
  have hin : i ≤ n := by omega
  have hb3 : (i : Int) ≤ (n : Int) + 1 := by omega
  have hb5 : (i : Int) + 1 ≤ (n : Int) + 1 := by omega
  have hG6 : G ≤ 9223372036854775807 := by unfold maxLen at hGm; omega
  clear hN hR1 hR2 l1 l2 l3 hdl hg hy hyl hxl hx hcs hy1 hx1 hRl hRt hROW hG hold hsrc hkk hik hW1 hW2 hW3 b1 b2 b3 o1 o2 o3 hGm hzs
  go_enter Tryz.func70, Tryz.ntmps70
  go_wp2_with (first
    | (at_builtin; refine Lib.wpList_append_run _ rfl _ _ _ _ rfl _ _ rfl rfl _ _ (hrz _) ?_)
    | (at_builtin; refine wpList_copy_run _ rfl _ _ 101 101 rfl _ _ rfl rfl (hcpA _ _) ?_))
  go_region_law (refine step_copy_run rfl _ _ 101 101 rfl (.slice (some ⟨N, (i + 1), none⟩) (n - i) (G - (i + 1))) (.slice (some ⟨g, i, none⟩) (n - i) (c - i)) (by simp [Act.eval, Act.put]) (by simp [Act.eval, Act.put]) (hcpB _ _ _) ?_)
  go_wp2
  go_ret
  exact HZ.out
/-- slices.Insert of one element. -/
theorem insP_ {w : World} {v : Value} {n i : Nat} {xs ys : List Value} (h : w.ownsRow 0 82 1 v n xs) (hi : i ≤ n) (hn : n ≤ 1000) (b : Nat) (hy : w.heap[b]? = some (.cells ys.toArray 82 (0, 0))) (hyl : ys.length = 1 * 1) (hy1 : ∀ u ∈ ys, u.oneCell' = true) (hx1 : ∀ u ∈ xs, u.oneCell' = true) (hb : v.ownBlock ≠ some b) :
    Calls Tryz.prog 70 #[v, .int .i64 i, .slice (some ⟨b, 0, none⟩) 1 1] w (InsToP w v (n + 1) (xs.take (i * 1) ++ (ys ++ xs.drop (i * 1)))) := by
  by_cases he : i = n
  · subst he
    have := insP_end h hn b hy hyl hy1
    have hl := h.1
    rw [List.take_of_length_le (by omega), List.drop_of_length_le (by omega), List.append_nil]
    exact this
  · obtain ⟨g, c, cur, rfl, hg, hnc, hcm, hcs, hx⟩ := row_open h (by omega)
    by_cases hr : n + 1 ≤ c
    · exact insP_shift hg hcs hx hn (by omega) hr hcm b hy hyl hy1 hx1 fun e => hb (by rw [e]; rfl)
    · exact insP_grow hg hcs hx hn (by omega) hnc (by omega) b hy hyl hy1 hx1
end Go.Proofs.YtagamkahfiackaaGreatDoor

namespace Go.Proofs.YtagamkahfiackaaGreatDoor
open Go.RowKit Go.Sort

/-- Insert into a node's items, and what is stored then. -/
def PutI (V : World) (M : Nat → Option Nd) (q : Nat) (n : Nd) (l : List It) (v' : Value) (V1 : World) : Prop :=
  ∃ a m c V2, v' = .slice a m c ∧ (Instr.storeAt 100 (.pointer (some ⟨q, 0, none⟩)) (.slice a m c)).run Tryz.prog V1 = .ok () V2 ∧ Store V2 (upd M q { n with iv := .slice a m c, its := l }) ∧ Ext (Own M) (Own (upd M q { n with iv := .slice a m c, its := l })) V V2
theorem putI_of {V V1 : World} {M : Nat → Option Nd} {q : Nat} {n : Nd} {l : List It} {a : Option Addr} {m c : Nat} (h : Store V M) (hq : M q = some n) (hg : V.grownBy V1 n.iv.ownBlock) (hr : RowI V1 (.slice a m c) l) (hv : Gone n.iv (.slice a m c) V.heap.size) : PutI V M q n l (.slice a m c) V1 := by
  obtain ⟨s1, s2⟩ := h.putI hq hg hr hv
  have hb1 : V1.heap[q]? = V.heap[q]? := hg.block q (h.node_lt hq) fun e => by
    obtain ⟨cur, hc'⟩ := row_block (h.its q n hq) e.symm
    exact kind_ne (h.blk q n hq) hc' (by decide) rfl
  have hb2 := hb1.trans (h.blk q n hq)
  exact ⟨a, m, c, _, rfl, store_sl (cell_of hb2 rfl) (frozen_of hb2) (by kernel_rfl), s1, s2⟩
theorem insI_node {V : World} {M : Nat → Option Nd} {q : Nat} {n : Nd} {l1 l2 : List It} {x : It} (h : Store V M) (hq : M q = some n) (hl : n.its = l1 ++ l2) (hn : n.its.length ≤ 1000) {b : Nat} (hb : V.heap[b]? = some (.cells (cI [x]).toArray 99 (0, 0))) (hbo : ¬ Own M b) :
    Calls Tryz.prog 66 #[n.iv, .int .i64 l1.length, .slice (some ⟨b, 0, none⟩) 1 1] V fun e V1 => ∃ v', e = .returned v' ∧ PutI V M q n (l1 ++ x :: l2) v' V1 := by
  have hd := insI_ (h.its q n hq) (i := l1.length) (by rw [hl]; simp) hn b hb (by rfl) (cI_one _) (cI_one _) (fun e => hbo ⟨q, n, hq, .inr (.inl e)⟩)
  refine hd.mono ?_
  rintro e V1 ⟨g, c, rfl, hr, hg, hv⟩
  have ec : (cI n.its).take (l1.length * 2) ++ (cI [x] ++ (cI n.its).drop (l1.length * 2)) = cI (l1 ++ x :: l2) := by
    rw [cI_take, cI_drop, ← cI_append, ← cI_append, hl, List.take_left, List.drop_left]; rfl
  rw [ec, show n.its.length + 1 = (l1 ++ x :: l2).length by rw [hl]; simp; omega] at hr
  rw [show n.its.length + 1 = (l1 ++ x :: l2).length by rw [hl]; simp; omega]
  refine ⟨_, rfl, putI_of h hq hg hr fun k e => ?_⟩
  simp only [Value.ownBlock, Option.some.injEq] at e
  subst e
  exact hv
theorem delI_node {V : World} {M : Nat → Option Nd} {q : Nat} {n : Nd} {l1 l2 l3 : List It} (h : Store V M) (hq : M q = some n) (hl : n.its = l1 ++ (l2 ++ l3)) (h2 : l2 ≠ []) (hn : n.its.length ≤ 1000) :
    Calls Tryz.prog 71 #[n.iv, .int .i64 l1.length, .int .i64 (l1.length + l2.length : Nat)] V fun e V1 => ∃ v', e = .returned v' ∧ PutI V M q n (l1 ++ l3) v' V1 := by
  have hp : 0 < l2.length := List.length_pos_iff.2 h2
  have hd := delI_ (h.its q n hq) (i := l1.length) (j := l1.length + l2.length) (by omega) (by rw [hl]; simp) hn (cI_one _)
  refine hd.mono ?_
  rintro e V1 ⟨g, c, hv, rfl, hr, hg⟩
  have ec : (cI n.its).take (l1.length * 2) ++ (cI n.its).drop ((l1.length + l2.length) * 2) = cI (l1 ++ l3) := by
    rw [cI_take, cI_drop, ← cI_append, hl, List.take_left, ← List.append_assoc, List.drop_left' (by simp)]
  rw [ec, show l1.length + (n.its.length - (l1.length + l2.length)) = (l1 ++ l3).length by rw [hl]; simp; omega] at hr
  rw [show l1.length + (n.its.length - (l1.length + l2.length)) = (l1 ++ l3).length by rw [hl]; simp; omega]
  refine ⟨_, rfl, putI_of h hq hg hr fun k e => ?_⟩
  simp only [Value.ownBlock, Option.some.injEq] at e
  subst e
  exact .inl hv
/-- append to a node's items what lies in another row. -/
theorem appI_run {V : World} {M : Nat → Option Nd} {q : Nat} {n : Nd} {xs : List It} (h : Store V M) (hq : M q = some n) (hn : n.its.length + xs.length ≤ 1000) (ad : Addr) (c : Nat) (hs : ∀ j u, (cI xs)[j]? = some u → V.cell? (ad.add j) = some u) (ty : TypeId) :
    ∃ v' V1, (Builtin.append_ #[100, 100] ty #[n.iv, .slice (some ad) xs.length c]).run Tryz.prog V = .ok v' V1 ∧ V.grownBy V1 n.iv.ownBlock ∧ PutI V M q n (n.its ++ xs) v' V1 := by
  obtain ⟨i0, hi0, hz0, hz1, hz2⟩ := info_parts infoVI
  obtain ⟨v', V1, hr, h2, h3, _, h5⟩ := run_append_own_at (P := Tryz.prog) V 0 100 ty 99 i0 _ 2 40 Tryz.underlying100 hi0 hz0 hz1 hz2 rfl (by decide) _ n.its.length _ (h.its q n hq) ad xs.length c (cI xs) (cI_len xs) hs (cI_one _) (by unfold maxLen; omega) (by omega) (Nat.zero_le _)
  obtain ⟨a, c', rfl, _⟩ := row_shape h2
  refine ⟨_, V1, hr, h3, putI_of h hq h3 ?_ fun k e => ?_⟩
  · unfold RowI
    rw [List.length_append, cI_append]
    exact h2
  · rcases h5 with e5 | e5
    · exact .inl (by rw [← e5]; exact e)
    · rw [e5] at e; cases e; exact .inr (Nat.le_refl _)
theorem run_buildI (w : World) (x : It) (a : Act) (o : Oper) (y : Operand) (h : o.op = .buildSlice 100 1 #[(0, y)]) (hy : a.eval y = itV x) : (execOp a.eval o).run Tryz.prog w = .ok (.value (.slice (some ⟨w.heap.size, 0, none⟩) 1 1)) (w.alloc (.cells (cI [x]).toArray 99)) := by
  unfold execOp
  simp only [h, List.map_toArray, List.map_cons, List.map_nil, hy]
  simp [Instr.buildSlice, go_sem, itV, cI]
/-- Insert into a node's children, and what is stored then. -/
def PutP (V : World) (M : Nat → Option Nd) (q : Nat) (n : Nd) (l : List Nat) (v' : Value) (V1 : World) : Prop :=
  ∃ a m c V2, v' = .slice a m c ∧ (Instr.storeAt 101 (.pointer (some ⟨q, 1, none⟩)) (.slice a m c)).run Tryz.prog V1 = .ok () V2 ∧ Store V2 (upd M q { n with cv := .slice a m c, ks := l }) ∧ Ext (Own M) (Own (upd M q { n with cv := .slice a m c, ks := l })) V V2
theorem putP_of {V V1 : World} {M : Nat → Option Nd} {q : Nat} {n : Nd} {l : List Nat} {a : Option Addr} {m c : Nat} (h : Store V M) (hq : M q = some n) (hg : V.grownBy V1 n.cv.ownBlock) (hr : RowP V1 (.slice a m c) l) (hv : Gone n.cv (.slice a m c) V.heap.size) : PutP V M q n l (.slice a m c) V1 := by
  obtain ⟨s1, s2⟩ := h.putC hq hg hr hv
  have hb1 : V1.heap[q]? = V.heap[q]? := hg.block q (h.node_lt hq) fun e => by
    obtain ⟨cur, hc'⟩ := row_block (h.ks q n hq) e.symm
    exact kind_ne (h.blk q n hq) hc' (by decide) rfl
  have hb2 := hb1.trans (h.blk q n hq)
  exact ⟨a, m, c, _, rfl, store_sl (cell_of hb2 rfl) (frozen_of hb2) (by kernel_rfl), s1, s2⟩
theorem insP_node {V : World} {M : Nat → Option Nd} {q : Nat} {n : Nd} {l1 l2 : List Nat} {x : Nat} (h : Store V M) (hq : M q = some n) (hl : n.ks = l1 ++ l2) (hn : n.ks.length ≤ 1000) {b : Nat} (hb : V.heap[b]? = some (.cells (cP [x]).toArray 82 (0, 0))) (hbo : ¬ Own M b) :
    Calls Tryz.prog 70 #[n.cv, .int .i64 l1.length, .slice (some ⟨b, 0, none⟩) 1 1] V fun e V1 => ∃ v', e = .returned v' ∧ PutP V M q n (l1 ++ x :: l2) v' V1 := by
  have hd := insP_ (h.ks q n hq) (i := l1.length) (by rw [hl]; simp) hn b hb (by rfl) (cP_one _) (cP_one _) (fun e => hbo ⟨q, n, hq, .inr (.inr e)⟩)
  refine hd.mono ?_
  rintro e V1 ⟨g, c, rfl, hr, hg, hv⟩
  have ec : (cP n.ks).take (l1.length * 1) ++ (cP [x] ++ (cP n.ks).drop (l1.length * 1)) = cP (l1 ++ x :: l2) := by
    rw [cP_take, cP_drop, ← cP_append, ← cP_append, hl, List.take_left, List.drop_left]; rfl
  rw [ec, show n.ks.length + 1 = (l1 ++ x :: l2).length by rw [hl]; simp; omega] at hr
  rw [show n.ks.length + 1 = (l1 ++ x :: l2).length by rw [hl]; simp; omega]
  refine ⟨_, rfl, putP_of h hq hg hr fun k e => ?_⟩
  simp only [Value.ownBlock, Option.some.injEq] at e
  subst e
  exact hv
theorem delP_node {V : World} {M : Nat → Option Nd} {q : Nat} {n : Nd} {l1 l2 l3 : List Nat} (h : Store V M) (hq : M q = some n) (hl : n.ks = l1 ++ (l2 ++ l3)) (h2 : l2 ≠ []) (hn : n.ks.length ≤ 1000) :
    Calls Tryz.prog 69 #[n.cv, .int .i64 l1.length, .int .i64 (l1.length + l2.length : Nat)] V fun e V1 => ∃ v', e = .returned v' ∧ PutP V M q n (l1 ++ l3) v' V1 := by
  have hp : 0 < l2.length := List.length_pos_iff.2 h2
  have hd := delP_ (h.ks q n hq) (i := l1.length) (j := l1.length + l2.length) (by omega) (by rw [hl]; simp) hn (cP_one _)
  refine hd.mono ?_
  rintro e V1 ⟨g, c, hv, rfl, hr, hg⟩
  have ec : (cP n.ks).take (l1.length * 1) ++ (cP n.ks).drop ((l1.length + l2.length) * 1) = cP (l1 ++ l3) := by
    rw [cP_take, cP_drop, ← cP_append, hl, List.take_left, ← List.append_assoc, List.drop_left' (by simp)]
  rw [ec, show l1.length + (n.ks.length - (l1.length + l2.length)) = (l1 ++ l3).length by rw [hl]; simp; omega] at hr
  rw [show l1.length + (n.ks.length - (l1.length + l2.length)) = (l1 ++ l3).length by rw [hl]; simp; omega]
  refine ⟨_, rfl, putP_of h hq hg hr fun k e => ?_⟩
  simp only [Value.ownBlock, Option.some.injEq] at e
  subst e
  exact .inl hv
/-- append to a node's children what lies in another row. -/
theorem appP_run {V : World} {M : Nat → Option Nd} {q : Nat} {n : Nd} {xs : List Nat} (h : Store V M) (hq : M q = some n) (hn : n.ks.length + xs.length ≤ 1000) (ad : Addr) (c : Nat) (hs : ∀ j u, (cP xs)[j]? = some u → V.cell? (ad.add j) = some u) (ty : TypeId) :
    ∃ v' V1, (Builtin.append_ #[101, 101] ty #[n.cv, .slice (some ad) xs.length c]).run Tryz.prog V = .ok v' V1 ∧ V.grownBy V1 n.cv.ownBlock ∧ PutP V M q n (n.ks ++ xs) v' V1 := by
  obtain ⟨i0, hi0, hz0, hz1, hz2⟩ := info_parts infoVP
  obtain ⟨v', V1, hr, h2, h3, _, h5⟩ := run_append_own_at (P := Tryz.prog) V 0 101 ty 82 i0 _ 1 8 Tryz.underlying101 hi0 hz0 hz1 hz2 rfl (by decide) _ n.ks.length _ (h.ks q n hq) ad xs.length c (cP xs) (cP_len xs) hs (cP_one _) (by unfold maxLen; omega) (by omega) (Nat.zero_le _)
  obtain ⟨a, c', rfl, _⟩ := row_shape h2
  refine ⟨_, V1, hr, h3, putP_of h hq h3 ?_ fun k e => ?_⟩
  · unfold RowP
    rw [List.length_append, cP_append]
    exact h2
  · rcases h5 with e5 | e5
    · exact .inl (by rw [← e5]; exact e)
    · rw [e5] at e; cases e; exact .inr (Nat.le_refl _)
theorem run_buildP (w : World) (x : Nat) (a : Act) (o : Oper) (y : Operand) (h : o.op = .buildSlice 101 1 #[(0, y)]) (hy : a.eval y = pt x) : (execOp a.eval o).run Tryz.prog w = .ok (.value (.slice (some ⟨w.heap.size, 0, none⟩) 1 1)) (w.alloc (.cells (cP [x]).toArray 82)) := by
  unfold execOp
  simp only [h, List.map_toArray, List.map_cons, List.map_nil, hy]
  simp [Instr.buildSlice, go_sem, pt, cP]
end Go.Proofs.YtagamkahfiackaaGreatDoor

namespace Go.Proofs.YtagamkahfiackaaGreatDoor
open Go.RowKit Go.Sort

theorem wpList_exec {P : Program} {ops : Array Oper} {rest : List Oper} {o : Oper} {a : Act} {w w' : World} {v : Value} {Q : Exit → Act → World → Prop} (hgd : o.guard = none) (hr : (execOp a.eval o).run P w = .ok (.value v) w') (h : wpList P ops Q rest (a.put o.dst v) w') : wpList P ops Q (o :: rest) a w :=
  wpList_plain hgd fun _ hK => by
    unfold Oper.wp
    rw [hr]
    exact hK _ _ h
theorem run_boxN (w : World) (a : Act) (o : Oper) (y : Operand) (u1 u2 : Value) (h : o.op = .box 103 y) (hy : a.eval y = .agg #[u1, u2]) : (execOp a.eval o).run Tryz.prog w = .ok (.value (.pointer (some ⟨w.heap.size, 0, none⟩))) (w.alloc (.cells #[u1, u2] 103)) := by
  unfold execOp
  simp only [h, hy]
  simp [Instr.box, newVar, newObj, go_sem, Value.cells]
  rfl
/-- What is left behind a child is split. -/
structure Split (w : World) (M : Nat → Option Nd) (q c r : Nat) (its : List It) (ks : List Nat) (J1 : List It) (C1 : List Nat) (J2 : List It) (C2 : List Nat) (w' : World) (M' : Nat → Option Nd) : Prop where
  st : Store w' M'
  ext : Ext (Own M) (Own M') w w'
  new : w.heap.size ≤ r
  atq : ∃ n', M' q = some n' ∧ n'.its = its ∧ n'.ks = ks
  atc : ∃ n', M' c = some n' ∧ n'.its = J1 ∧ n'.ks = C1
  atr : ∃ n', M' r = some n' ∧ n'.its = J2 ∧ n'.ks = C2
  rest : ∀ k, k ≠ q → k ≠ c → k ≠ r → M' k = M k
def SplitTo (w : World) (M : Nat → Option Nd) (q c : Nat) (its : List It) (K1 K2 : List Nat) (J1 : List It) (C1 : List Nat) (J2 : List It) (C2 : List Nat) (e : Ending) (w' : World) : Prop :=
  e = .returned (.tuple #[]) ∧ ∃ M' r, Split w M q c r its (K1 ++ c :: r :: K2) J1 C1 J2 C2 w' M'
set_option maxRecDepth 100000 in
set_option maxHeartbeats 2000000 in
theorem split_leaf {w : World} {M : Nat → Option Nd} {q c : Nat} {n nc : Nd} {I1 I2 : List It} {K1 K2 : List Nat} {J1 J2 : List It} {y : It} (h : Store w M) (hq : M q = some n) (hc : M c = some nc) (hqc : q ≠ c)
    (hI : n.its = I1 ++ I2) (hK : n.ks = K1 ++ c :: K2) (hIK : I1.length = K1.length) (hn : n.its.length ≤ 1000) (hn2 : n.ks.length ≤ 1000) (hJ : nc.its = J1 ++ y :: J2) (hJ1 : J1.length = 4) (hJ2 : J2.length = 3) (hks : nc.ks = []) :
    Calls Tryz.prog 52 #[.pointer (some ⟨q, 0, none⟩), .int .i64 I1.length] w (SplitTo w M q c (I1 ++ y :: I2) K1 K2 J1 [] J2 []) := by
  obtain ⟨gq, cq, hqcv, hgq, hkc, _, hcq63⟩ := h.kid hq hK
  obtain ⟨gc, cc, hciv, hgc, hy1, hy2, _, _, hcc63⟩ := h.item hc hJ
  obtain ⟨ac, ccc, hccv, _⟩ := row_shape (h.ks c nc hc)
  obtain ⟨aq, cqi, hqiv, _⟩ := row_shape (h.its q n hq)
  obtain ⟨q0, q1, _, _⟩ := h.cells hq
  obtain ⟨c0, c1, _, _⟩ := h.cells hc
  rw [hks] at hccv
  rw [hqcv, ← hIK] at q1
  rw [hciv, hJ1, hJ2] at c0
  rw [hccv] at c1
  rw [← hIK] at hkc
  rw [hJ1] at hy1 hy2
  have hnl : n.its.length = I1.length + I2.length := by rw [hI]; simp
  have hkl : n.ks.length = I1.length + K2.length + 1 := by rw [hK, hIK]; simp; omega
  have hql := h.node_lt hq
  have hcl := h.node_lt hc
  have hrow : RowI w (.slice (some ⟨gc, 0, none⟩) 8 cc) nc.its := by have := h.its c nc hc; rw [hciv, hJ1, hJ2] at this; exact this
  have hJl : nc.its.length = 8 := by rw [hJ]; simp; omega
  have hcc5 : ¬ cc = 5 := by
    obtain ⟨_, _, e, _, _, h8, _⟩ := row_shape hrow
    simp only [Value.slice.injEq] at e
    omega
  have hsrc : ∀ j u, (cI J2)[j]? = some u → w.cell? ⟨gc, 10 + j, none⟩ = some u := fun j u hj => by
    unfold RowI at hrow
    rw [hJl] at hrow
    have hjl : j < (cI J2).length := (List.getElem?_eq_some_iff.1 hj).1
    rw [cI_len, hJ2] at hjl
    rw [hrow.cellAt (10 + j) (by omega), hJ, show J1 ++ y :: J2 = (J1 ++ [y]) ++ J2 by simp, cI_append, List.getElem?_append_right (by rw [cI_len]; simp; omega), cI_len, ← hj]
    congr 1
    simp; omega
  have HC : Hid (Calls Tryz.prog 67 #[.slice (some ⟨gc, 10, none⟩) 3 (cc - 5)] w fun e V1 => ∃ g1 c1 r W1, e = .returned (.slice (some ⟨g1, 0, none⟩) 3 c1) ∧ Hid (∀ (a : Act) (o : Oper) (y : Operand), o.op = .box 103 y → a.eval y = .agg #[.slice (some ⟨g1, 0, none⟩) 3 c1, .slice none 0 0] → (execOp a.eval o).run Tryz.prog V1 = .ok (.value (.pointer (some ⟨r, 0, none⟩))) W1) ∧ W1.cell? ⟨c, 1, none⟩ = some (.slice ac 0 ccc) ∧ Hid (w.heap.size ≤ r ∧ Store W1 (upd M r ⟨J2, [], .slice (some ⟨g1, 0, none⟩) 3 c1, .slice none 0 0⟩) ∧ Ext (Own M) (Own (upd M r ⟨J2, [], .slice (some ⟨g1, 0, none⟩) 3 c1, .slice none 0 0⟩)) w W1)) := by
    refine (cloI_ gc 10 3 (cc - 5) (cI J2) (by omega) (by omega) (by rw [cI_len, hJ2]) hsrc (cI_one _)).mono ?_
    rintro e V1 ⟨g1, c1, hg1, rfl, hr1, hb1⟩
    have hbl := below_step hb1 (below_alloc V1 (.cells #[.slice (some ⟨g1, 0, none⟩) 3 c1, .slice none 0 0] 103))
    refine ⟨g1, c1, V1.heap.size, V1.alloc (.cells #[.slice (some ⟨g1, 0, none⟩) 3 c1, .slice none 0 0] 103), rfl, fun a o y h1 h2 => run_boxN V1 a o y _ _ h1 h2, ?_, hb1.size, ?_⟩
    · have := (h.on hbl).cells hc
      rw [this.2.1, hccv]; rfl
    · refine h.add (n := ⟨J2, [], .slice (some ⟨g1, 0, none⟩) 3 c1, .slice none 0 0⟩) hbl hb1.size (new_blk _ _) ?_ (World.ownsRow_nil _ _ _ _) (fun k e => ?_) (fun k e => by cases e)
      · unfold RowI
        rw [hJ2]
        exact row_on hr1 (below_alloc _ _)
      · simp only [Value.ownBlock, Option.some.injEq] at e
        omega
  have w1 := wraps_i64 ((I1.length : Int) + 1) (by omega) (by omega)
  have H0 := Lib.hid h
  have HQ := Lib.hid hq
  have HCC := Lib.hid hc
  have hk1 : ((I1.length : Int) + 1) = ((K1 ++ [c]).length : Nat) := by simp; omega
  have HK1 := Lib.hid hk1
  have HIV : Hid (nc.iv = .slice (some ⟨gc, 0, none⟩) 8 cc) := by show nc.iv = _; rw [hciv, hJ1, hJ2]
  have HCV := Lib.hid hqcv
  clear h hq hc hrow hsrc hk1 hciv hqcv hy1 hy2
  have hqi : (I1.length : Int) < (I1.length : Int) + (K2.length : Int) + 1 := by omega
  obtain ⟨i1, hi1⟩ : ∃ i1, i1 = I1.length := ⟨_, rfl⟩
  obtain ⟨k2, hk2⟩ : ∃ k2, k2 = K2.length := ⟨_, rfl⟩
  have HI1 := Lib.hid hi1
  rw [← hi1] at hkc q1 w1 hqi HK1 hnl hkl ⊢
  rw [← hk2] at q1 hqi hkl
  unfold pt at hkc
  have HCV2 : Hid (n.cv = .slice (some ⟨gq, 0, none⟩) (i1 + k2 + 1) cq) := by show _ = _; rw [HCV.out, hi1, hk2, hIK]
  have HP := Lib.hid (And.intro hI (And.intro hK (And.intro hIK (And.intro hJ (And.intro hJ1 (And.intro hJ2 (And.intro hn hn2)))))))
  have HQI := Lib.hid hqiv
  have HKS := Lib.hid hks
  clear hi1 hk2 hccv hI hK hIK hJ hJ1 hJ2 hn hn2 hnl hkl hqiv hks hJl hqi
  go_enter Tryz.func52, Tryz.ntmps52
  go_wp2_with (first
    | (go_at_call 67; refine HC.out.mono ?_; rintro e V1 ⟨g1, c1', r, W1, rfl, HB, hw1, HS⟩)
    | (refine wpList_exec rfl (HB.out _ _ _ rfl rfl) ?_)
    | fail)
  obtain ⟨M1, hM1⟩ : ∃ M1, M1 = upd M r ⟨J2, [], .slice (some ⟨g1, 0, none⟩) 3 c1', .slice none 0 0⟩ := ⟨_, rfl⟩
  rw [← hM1] at HS
  have HD : Hid (q ≠ c ∧ q ≠ r ∧ c ≠ r ∧ w.heap.size ≤ r) := by
    have := HS.out.1
    exact ⟨hqc, by omega, by omega, this⟩
  obtain ⟨ncx, hncx⟩ : ∃ ncx, ncx = nc := ⟨_, rfl⟩
  have HS1 : Hid (Store W1 M1) := HS.out.2.1
  have HE1 : Hid (Ext (Own M) (Own M1) w W1) := HS.out.2.2
  have HQ1 : Hid (M1 q = some n) := by show M1 q = _; rw [hM1]; exact (upd_other _ _ HD.out.2.1).trans HQ.out
  have HC1 : Hid (M1 c = some ncx) := by show M1 c = _; rw [hM1, hncx]; exact (upd_other _ _ HD.out.2.2.1).trans HCC.out
  have HX : Hid (ncx.its = nc.its ∧ ncx.iv = nc.iv ∧ ncx.ks = []) := by rw [hncx]; exact ⟨rfl, rfl, HKS.out⟩
  have HR1 : Hid (∃ nr, M1 r = some nr ∧ nr.its = J2 ∧ nr.ks = []) := by rw [hM1]; exact ⟨_, upd_self _ _ _, rfl, rfl⟩
  have HRe : Hid (∀ k, k ≠ q → k ≠ c → k ≠ r → M1 k = M k) := by rw [hM1]; exact fun k _ _ h3 => upd_other _ _ h3
  clear hM1 hncx HS HC hw1
  obtain ⟨nl, hnl'⟩ : ∃ nl, nl = n.its.length := ⟨_, rfl⟩
  have F1 : Hid (∀ V, Below W1.heap.size W1 V → V.cell? ⟨q, 0, none⟩ = some (.slice aq nl cqi)) := fun V hV => by
    rw [((HS1.out.on hV).cells HQ1.out).1, HQI.out, hnl']
  have F2 : Hid (∀ V, Below W1.heap.size W1 V → V.cell? ⟨c, 0, none⟩ = some (.slice (some ⟨gc, 0, none⟩) 8 cc)) := fun V hV => by
    rw [((HS1.out.on hV).cells HC1.out).1, HX.out.2.1, HIV.out]
  have F3 : Hid (∀ V, Below W1.heap.size W1 V → V.cell? ⟨gc, 8, none⟩ = some (.string y.1) ∧ V.cell? ⟨gc, 9, none⟩ = some (.slice y.2.a y.2.n y.2.c)) := fun V hV => by
    obtain ⟨_, _, _, hJ, hJ1, _⟩ := HP.out
    obtain ⟨g', c', e1, _, e2, e3, _, _, e4⟩ := (HS1.out.on hV).item HC1.out (HX.out.1.trans hJ)
    rw [hJ1, HX.out.2.1, HIV.out] at e1
    simp only [Value.slice.injEq, Option.some.injEq, Addr.mk.injEq] at e1
    obtain ⟨⟨rfl, _⟩, _⟩ := e1
    rw [hJ1] at e2 e3
    exact ⟨e2, e3⟩
  obtain ⟨U1, hU1⟩ : ∃ U, U = W1.drew.alloc (.cells (cI [y]).toArray 99) := ⟨_, rfl⟩
  have HB2 : Hid (Below W1.heap.size W1 U1) := by show Below _ _ _; rw [hU1]; exact below_step (below_drew W1) (below_alloc W1.drew _)
  have hrb : Hid (∀ (a : Act) (o : Oper) (z : Operand), o.op = .buildSlice 100 1 #[(0, z)] → a.eval z = itV y → (execOp a.eval o).run Tryz.prog W1.drew = .ok (.value (.slice (some ⟨W1.heap.size, 0, none⟩) 1 1)) U1) := fun a o z h1 h2 => by rw [hU1]; exact run_buildI W1.drew y a o z h1 h2
  have HIn : Hid (Calls Tryz.prog 66 #[.slice aq nl cqi, .int .i64 i1, .slice (some ⟨W1.heap.size, 0, none⟩) 1 1] U1 fun e V1 => ∃ a m c V2, e = .returned (.slice a m c) ∧ (Instr.storeAt 100 (.pointer (some ⟨q, 0, none⟩)) (.slice a m c)).run Tryz.prog V1 = .ok () V2 ∧ Hid (Store V2 (upd M1 q { n with iv := .slice a m c, its := I1 ++ y :: I2 }) ∧ Ext (Own M1) (Own (upd M1 q { n with iv := .slice a m c, its := I1 ++ y :: I2 })) W1 V2)) := by
    obtain ⟨hI, _, _, _, _, _, hn, _⟩ := HP.out
    have hub : U1.heap[W1.heap.size]? = some (.cells (cI [y]).toArray 99 (0, 0)) := by rw [hU1]; exact new_blk W1.drew _
    have hh := insI_node (HS1.out.on HB2.out) HQ1.out hI hn (x := y) hub (HS1.out.not_own (Nat.le_refl _))
    rw [← HI1.out, HQI.out, ← hnl'] at hh
    refine hh.mono ?_
    rintro e V1 ⟨v', rfl, a, m, c, V2, rfl, hst, s1, s2⟩
    exact ⟨a, m, c, V2, rfl, hst, s1, (Ext.of_below _ HB2.out).trans s2⟩
  clear hnl' hU1
  refine wp_region_noPanic ?_
  refine region_ph (A := fun _ => True) (e1 := 14) (B := (fun V => Below W1.heap.size W1 V)) (e2 := 14) (C := (fun _ => True)) (by kernel_rfl) (⟨trivial, fun _ => below_drew W1, fun _ => trivial⟩) (fun hSt => ?_)
  refine take_ph 0 (.pointer (some ⟨q, 0, none⟩)) [] rfl (by kernel_rfl) (fun _ _ _ h => h) (Or.inl ⟨by rfl, ?_⟩) hSt (fun hSn => ?_)
  · intro V _; go_simp
  clear hSt; rename Ph _ _ _ _ _ _ _ => hSt
  simp only [Act.put, List.setIfInBounds_toArray, List.set_cons_zero, List.set_cons_succ]
  refine take_ph 1 (.pointer (some ⟨q, 0, none⟩)) [] rfl (by kernel_rfl) (fun _ _ _ h => h) (Or.inl ⟨by rfl, ?_⟩) hSt (fun hSn => ?_)
  · intro V _; go_simp
  clear hSt; rename Ph _ _ _ _ _ _ _ => hSt
  simp only [Act.put, List.setIfInBounds_toArray, List.set_cons_zero, List.set_cons_succ]
  refine take_ph 2 (.pointer (some ⟨q, 0, none⟩)) [] rfl (by kernel_rfl) (fun _ _ _ h => h) (Or.inl ⟨by rfl, ?_⟩) hSt (fun hSn => ?_)
  · intro V _; go_simp
  clear hSt; rename Ph _ _ _ _ _ _ _ => hSt
  simp only [Act.put, List.setIfInBounds_toArray, List.set_cons_zero, List.set_cons_succ]
  refine take_ph 3 (.pointer (some ⟨q, 0, none⟩)) [] rfl (by kernel_rfl) (fun _ _ _ h => h) (Or.inl ⟨by rfl, ?_⟩) hSt (fun hSn => ?_)
  · intro V _; go_simp
  clear hSt; rename Ph _ _ _ _ _ _ _ => hSt
  simp only [Act.put, List.setIfInBounds_toArray, List.set_cons_zero, List.set_cons_succ]
  refine take_ph 4 (.slice aq nl cqi) [14] rfl (by kernel_rfl) (fun _ _ _ h => h) (Or.inl ⟨by rfl, ?_⟩) hSt (fun hSn => ?_)
  · rintro V ⟨_, hB, hC⟩; have hh := hB (by decide); have e0 := F1.out V hh; clear hB hC; go_simp
  clear hSt; rename Ph _ _ _ _ _ _ _ => hSt
  simp only [Act.put, List.setIfInBounds_toArray, List.set_cons_zero, List.set_cons_succ]
  refine take_ph 5 (.int .i64 i1) [] rfl (by kernel_rfl) (fun _ _ _ h => h) (Or.inl ⟨by rfl, ?_⟩) hSt (fun hSn => ?_)
  · intro V _; go_simp
  clear hSt; rename Ph _ _ _ _ _ _ _ => hSt
  simp only [Act.put, List.setIfInBounds_toArray, List.set_cons_zero, List.set_cons_succ]
  refine take_ph 6 (.pointer (some ⟨c, 0, none⟩)) [] rfl (by kernel_rfl) (fun _ _ _ h => h) (Or.inl ⟨by rfl, ?_⟩) hSt (fun hSn => ?_)
  · intro V _; go_simp
  clear hSt; rename Ph _ _ _ _ _ _ _ => hSt
  simp only [Act.put, List.setIfInBounds_toArray, List.set_cons_zero, List.set_cons_succ]
  refine take_ph 7 (.pointer (some ⟨c, 0, none⟩)) [] rfl (by kernel_rfl) (fun _ _ _ h => h) (Or.inl ⟨by rfl, ?_⟩) hSt (fun hSn => ?_)
  · intro V _; go_simp
  clear hSt; rename Ph _ _ _ _ _ _ _ => hSt
  simp only [Act.put, List.setIfInBounds_toArray, List.set_cons_zero, List.set_cons_succ]
  refine take_ph 8 (.pointer (some ⟨c, 0, none⟩)) [] rfl (by kernel_rfl) (fun _ _ _ h => h) (Or.inl ⟨by rfl, ?_⟩) hSt (fun hSn => ?_)
  · intro V _; go_simp
  clear hSt; rename Ph _ _ _ _ _ _ _ => hSt
  simp only [Act.put, List.setIfInBounds_toArray, List.set_cons_zero, List.set_cons_succ]
  refine take_ph 9 (.slice (some ⟨gc, 0, none⟩) 8 cc) [11, 12, 13, 14] rfl (by kernel_rfl) (fun _ _ _ h => h) (Or.inl ⟨by rfl, ?_⟩) hSt (fun hSn => ?_)
  · rintro V ⟨_, hB, hC⟩; have hh := hB (by decide); have e0 := F2.out V hh; clear hB hC; go_simp
  clear hSt; rename Ph _ _ _ _ _ _ _ => hSt
  simp only [Act.put, List.setIfInBounds_toArray, List.set_cons_zero, List.set_cons_succ]
  refine take_ph 10 (.int .i64 4) [] rfl (by kernel_rfl) (fun _ _ _ h => h) (Or.inl ⟨by rfl, ?_⟩) hSt (fun hSn => ?_)
  · intro V _; go_simp
  clear hSt; rename Ph _ _ _ _ _ _ _ => hSt
  simp only [Act.put, List.setIfInBounds_toArray, List.set_cons_zero, List.set_cons_succ]
  refine take_ph 11 (.pointer (some ⟨gc, 8, none⟩)) [] rfl (by kernel_rfl) (fun _ _ _ h => h) (Or.inl ⟨by rfl, ?_⟩) hSt (fun hSn => ?_)
  · intro V _; go_simp
  clear hSt; rename Ph _ _ _ _ _ _ _ => hSt
  simp only [Act.put, List.setIfInBounds_toArray, List.set_cons_zero, List.set_cons_succ]
  refine take_ph 12 (.agg #[.string y.1, .slice y.2.a y.2.n y.2.c]) [13, 14] rfl (by kernel_rfl) (fun _ _ _ h => h) (Or.inl ⟨by rfl, ?_⟩) hSt (fun hSn => ?_)
  · rintro V ⟨_, hB, hC⟩; have hh := hB (by decide); have e0 := F3.out V hh; clear hB hC; go_simp
  clear hSt; rename Ph _ _ _ _ _ _ _ => hSt
  simp only [Act.put, List.setIfInBounds_toArray, List.set_cons_zero, List.set_cons_succ]
  refine ready_ph 13 rfl (by kernel_rfl) rfl (.inl (hrb.out _ _ _ rfl rfl)) (⟨trivial, fun _ => HB2.out, fun _ => trivial⟩) (fun hSn => ?_)
  clear hSt; rename Ph _ _ _ _ _ _ _ => hSt
  simp only [Act.put, List.setIfInBounds_toArray, List.set_cons_zero, List.set_cons_succ]
  refine ready_call_ph 14 rfl (by kernel_rfl) (fun KK hK => ?_)
  go_simp
  go_wp2_with (first | (go_at_call 66; refine HIn.out.mono ?_; rintro e V3 ⟨a5, m5, c5, V4, rfl, hst4, HS4⟩))
  refine hK.out _ _ ?_ (fun hSn => ?_)
  · exact ⟨trivial, fun h => absurd (show true = false from h) (by decide), fun _ => trivial⟩
  clear hK KK hSt; rename Ph _ _ _ _ _ _ _ => hSt
  refine take_ph 15 (.pointer (some ⟨q, 0, none⟩)) [] rfl (by kernel_rfl) (fun _ _ _ h => h) (Or.inl ⟨by rfl, ?_⟩) hSt (fun hSn => ?_)
  · intro V _; go_simp
  clear hSt; rename Ph _ _ _ _ _ _ _ => hSt
  simp only [Act.put, List.setIfInBounds_toArray, List.set_cons_zero, List.set_cons_succ]
  refine take_ph 16 (.pointer (some ⟨q, 0, none⟩)) [] rfl (by kernel_rfl) (fun _ _ _ h => h) (Or.inl ⟨by rfl, ?_⟩) hSt (fun hSn => ?_)
  · intro V _; go_simp
  clear hSt; rename Ph _ _ _ _ _ _ _ => hSt
  simp only [Act.put, List.setIfInBounds_toArray, List.set_cons_zero, List.set_cons_succ]
  refine ready_store_ph 17 rfl (by kernel_rfl) rfl 100 _ _ rfl _ _ rfl rfl (hst4) (⟨trivial, fun h => absurd (show true = false from h) (by decide), fun _ => trivial⟩) (fun hSn => ?_)
  clear hSt; rename Ph _ _ _ _ _ _ _ => hSt
  simp only [Act.put]
  refine done_ph (by kernel_rfl) ?_ _
  clear hSt
  refine NoPanic.normal ?_
  clear F1 F2 F3 HIn hrb hst4 HB2
  obtain ⟨nq2, hnq2⟩ : ∃ nq2 : Nd, nq2 = { n with iv := .slice a5 m5 c5, its := I1 ++ y :: I2 } := ⟨_, rfl⟩
  rw [← hnq2] at HS4
  have HN2 : Hid (nq2.its = I1 ++ y :: I2 ∧ nq2.ks = n.ks ∧ nq2.cv = n.cv) := by rw [hnq2]; exact ⟨rfl, rfl, rfl⟩
  clear hnq2
  have q2 : V4.cell? ⟨q, 1, none⟩ = some (.slice (some ⟨gq, 0, none⟩) (i1 + k2 + 1) cq) := by
    rw [(HS4.out.1.cells (upd_self _ _ _)).2.1, HN2.out.2.2, HCV2.out]
  obtain ⟨U2, hU2⟩ : ∃ U, U = V4.alloc (.cells (cP [r]).toArray 82) := ⟨_, rfl⟩
  have hrb : Hid (∀ (a : Act) (o : Oper) (z : Operand), o.op = .buildSlice 101 1 #[(0, z)] → a.eval z = .pointer (some ⟨r, 0, none⟩) → (execOp a.eval o).run Tryz.prog V4 = .ok (.value (.slice (some ⟨V4.heap.size, 0, none⟩) 1 1)) U2) := fun a o z h1 h2 => by rw [hU2]; exact run_buildP V4 r a o z h1 h2
  have HIn : Hid (Calls Tryz.prog 70 #[.slice (some ⟨gq, 0, none⟩) (i1 + k2 + 1) cq, .int .i64 ((i1 : Int) + 1), .slice (some ⟨V4.heap.size, 0, none⟩) 1 1] U2 fun e V1 => ∃ a m c' V2, e = .returned (.slice a m c') ∧ (Instr.storeAt 101 (.pointer (some ⟨q, 1, none⟩)) (.slice a m c')).run Tryz.prog V1 = .ok () V2 ∧ Hid (Store V2 (upd (upd M1 q nq2) q { nq2 with cv := .slice a m c', ks := (K1 ++ [c]) ++ r :: K2 }) ∧ Ext (Own M1) (Own (upd (upd M1 q nq2) q { nq2 with cv := .slice a m c', ks := (K1 ++ [c]) ++ r :: K2 })) W1 V2)) := by
    obtain ⟨_, hK, _, _, _, _, _, hn2⟩ := HP.out
    have hb2 : Below V4.heap.size V4 U2 := by rw [hU2]; exact below_alloc V4 _
    have hub : U2.heap[V4.heap.size]? = some (.cells (cP [r]).toArray 82 (0, 0)) := by rw [hU2]; exact new_blk V4 _
    have hh := insP_node (HS4.out.1.on hb2) (upd_self M1 q nq2) (l1 := K1 ++ [c]) (l2 := K2) (by rw [HN2.out.2.1, hK]; simp) (by rw [HN2.out.2.1]; exact hn2) (x := r) hub (HS4.out.1.not_own (Nat.le_refl _))
    rw [← HK1.out, HN2.out.2.2, HCV2.out] at hh
    refine hh.mono ?_
    rintro e V1 ⟨v', rfl, a, m, c', V2, rfl, hst, s1, s2⟩
    exact ⟨a, m, c', V2, rfl, hst, s1, (HS4.out.2.trans (Ext.of_below _ hb2)).trans s2⟩
  clear hU2
  go_wp2_with (first
    | (refine wpList_exec rfl (hrb.out _ _ _ rfl rfl) ?_)
    | (go_at_call 70; refine HIn.out.mono ?_; rintro e V5 ⟨a6, m6, c6, V6, rfl, hst6, HS6⟩)
    | (refine wpList_store_at rfl _ _ _ rfl _ _ rfl rfl hst6 ?_)
    | fail)
  obtain ⟨M3, hM3⟩ : ∃ M3, M3 = upd (upd M1 q nq2) q { nq2 with cv := .slice a6 m6 c6, ks := (K1 ++ [c]) ++ r :: K2 } := ⟨_, rfl⟩
  have HM3 : Hid (M3 q = some { nq2 with cv := .slice a6 m6 c6, ks := (K1 ++ [c]) ++ r :: K2 } ∧ ∀ k, k ≠ q → M3 k = M1 k) := by
    refine ⟨by rw [hM3]; exact upd_self _ _ _, fun k hk => by rw [hM3, upd_other _ _ hk, upd_other _ _ hk]⟩
  rw [← hM3] at HS6
  clear hM3 hst6 HIn hrb q2 HS4
  have HC3 : Hid (M3 c = some ncx) := (HM3.out.2 c (Ne.symm HD.out.1)).trans HC1.out
  have F1 : Hid (∀ V, Below V6.heap.size V6 V → V.cell? ⟨c, 0, none⟩ = some (.slice (some ⟨gc, 0, none⟩) 8 cc)) := fun V hV => by
    rw [((HS6.out.1.on hV).cells HC3.out).1, HX.out.2.1, HIV.out]
  have HIn : Hid (Calls Tryz.prog 71 #[.slice (some ⟨gc, 0, none⟩) 8 cc, .int .i64 4, .int .i64 8] V6.drew fun e V1 => ∃ a m c' V2, e = .returned (.slice a m c') ∧ (Instr.storeAt 100 (.pointer (some ⟨c, 0, none⟩)) (.slice a m c')).run Tryz.prog V1 = .ok () V2 ∧ Hid (Store V2 (upd M3 c { ncx with iv := .slice a m c', its := J1 ++ [] }) ∧ Ext (Own M1) (Own (upd M3 c { ncx with iv := .slice a m c', its := J1 ++ [] })) W1 V2)) := by
    obtain ⟨_, _, _, hJ, hJ1, hJ2, _⟩ := HP.out
    have hh := delI_node HS6.out.1.drew HC3.out (l1 := J1) (l2 := y :: J2) (l3 := []) (by rw [HX.out.1, hJ]; simp) (by simp) (by rw [HX.out.1, hJ]; simp; omega)
    rw [hJ1, HX.out.2.1, HIV.out, show ((4 + (y :: J2).length : Nat) : Int) = 8 by simp; omega] at hh
    refine hh.mono ?_
    rintro e V1 ⟨v', rfl, a, m, c', V2, rfl, hst, s1, s2⟩
    exact ⟨a, m, c', V2, rfl, hst, s1, (HS6.out.2.trans (Ext.of_below _ (below_drew V6))).trans s2⟩
  refine wp_region_noPanic ?_
  refine region_ph (A := fun _ => True) (e1 := 11) (B := (fun V => Below V6.heap.size V6 V)) (e2 := 11) (C := (fun _ => True)) (by kernel_rfl) (⟨trivial, fun _ => below_drew V6, fun _ => trivial⟩) (fun hSt => ?_)
  refine take_ph 0 (.pointer (some ⟨c, 0, none⟩)) [] rfl (by kernel_rfl) (fun _ _ _ h => h) (Or.inl ⟨by rfl, ?_⟩) hSt (fun hSn => ?_)
  · intro V _; go_simp
  clear hSt; rename Ph _ _ _ _ _ _ _ => hSt
  simp only [Act.put, List.setIfInBounds_toArray, List.set_cons_zero, List.set_cons_succ]
  refine take_ph 1 (.pointer (some ⟨c, 0, none⟩)) [] rfl (by kernel_rfl) (fun _ _ _ h => h) (Or.inl ⟨by rfl, ?_⟩) hSt (fun hSn => ?_)
  · intro V _; go_simp
  clear hSt; rename Ph _ _ _ _ _ _ _ => hSt
  simp only [Act.put, List.setIfInBounds_toArray, List.set_cons_zero, List.set_cons_succ]
  refine take_ph 2 (.pointer (some ⟨c, 0, none⟩)) [] rfl (by kernel_rfl) (fun _ _ _ h => h) (Or.inl ⟨by rfl, ?_⟩) hSt (fun hSn => ?_)
  · intro V _; go_simp
  clear hSt; rename Ph _ _ _ _ _ _ _ => hSt
  simp only [Act.put, List.setIfInBounds_toArray, List.set_cons_zero, List.set_cons_succ]
  refine take_ph 3 (.pointer (some ⟨c, 0, none⟩)) [] rfl (by kernel_rfl) (fun _ _ _ h => h) (Or.inl ⟨by rfl, ?_⟩) hSt (fun hSn => ?_)
  · intro V _; go_simp
  clear hSt; rename Ph _ _ _ _ _ _ _ => hSt
  simp only [Act.put, List.setIfInBounds_toArray, List.set_cons_zero, List.set_cons_succ]
  refine take_ph 4 (.slice (some ⟨gc, 0, none⟩) 8 cc) [11] rfl (by kernel_rfl) (fun _ _ _ h => h) (Or.inl ⟨by rfl, ?_⟩) hSt (fun hSn => ?_)
  · rintro V ⟨_, hB, hC⟩; have hh := hB (by decide); have e0 := F1.out V hh; clear hB hC; go_simp
  clear hSt; rename Ph _ _ _ _ _ _ _ => hSt
  simp only [Act.put, List.setIfInBounds_toArray, List.set_cons_zero, List.set_cons_succ]
  refine take_ph 5 (.int .i64 4) [] rfl (by kernel_rfl) (fun _ _ _ h => h) (Or.inl ⟨by rfl, ?_⟩) hSt (fun hSn => ?_)
  · intro V _; go_simp
  clear hSt; rename Ph _ _ _ _ _ _ _ => hSt
  simp only [Act.put, List.setIfInBounds_toArray, List.set_cons_zero, List.set_cons_succ]
  refine take_ph 6 (.pointer (some ⟨c, 0, none⟩)) [] rfl (by kernel_rfl) (fun _ _ _ h => h) (Or.inl ⟨by rfl, ?_⟩) hSt (fun hSn => ?_)
  · intro V _; go_simp
  clear hSt; rename Ph _ _ _ _ _ _ _ => hSt
  simp only [Act.put, List.setIfInBounds_toArray, List.set_cons_zero, List.set_cons_succ]
  refine take_ph 7 (.pointer (some ⟨c, 0, none⟩)) [] rfl (by kernel_rfl) (fun _ _ _ h => h) (Or.inl ⟨by rfl, ?_⟩) hSt (fun hSn => ?_)
  · intro V _; go_simp
  clear hSt; rename Ph _ _ _ _ _ _ _ => hSt
  simp only [Act.put, List.setIfInBounds_toArray, List.set_cons_zero, List.set_cons_succ]
  refine take_ph 8 (.pointer (some ⟨c, 0, none⟩)) [] rfl (by kernel_rfl) (fun _ _ _ h => h) (Or.inl ⟨by rfl, ?_⟩) hSt (fun hSn => ?_)
  · intro V _; go_simp
  clear hSt; rename Ph _ _ _ _ _ _ _ => hSt
  simp only [Act.put, List.setIfInBounds_toArray, List.set_cons_zero, List.set_cons_succ]
  refine take_ph 9 (.slice (some ⟨gc, 0, none⟩) 8 cc) [10, 11] rfl (by kernel_rfl) (fun _ _ _ h => h) (Or.inl ⟨by rfl, ?_⟩) hSt (fun hSn => ?_)
  · rintro V ⟨_, hB, hC⟩; have hh := hB (by decide); have e0 := F1.out V hh; clear hB hC; go_simp
  clear hSt; rename Ph _ _ _ _ _ _ _ => hSt
  simp only [Act.put, List.setIfInBounds_toArray, List.set_cons_zero, List.set_cons_succ]
  refine take_ph 10 (.int .i64 8) [] rfl (by kernel_rfl) (fun _ _ _ h => h) (Or.inl ⟨by rfl, ?_⟩) hSt (fun hSn => ?_)
  · intro V _; go_simp
  clear hSt; rename Ph _ _ _ _ _ _ _ => hSt
  simp only [Act.put, List.setIfInBounds_toArray, List.set_cons_zero, List.set_cons_succ]
  refine ready_call_ph 11 rfl (by kernel_rfl) (fun KK hK => ?_)
  go_simp
  go_wp2_with (first | (go_at_call 71; refine HIn.out.mono ?_; rintro e V7 ⟨a7, m7, c7, V8, rfl, hst8, HS8⟩))
  refine hK.out _ _ ?_ (fun hSn => ?_)
  · exact ⟨trivial, fun h => absurd (show true = false from h) (by decide), fun _ => trivial⟩
  clear hK KK hSt; rename Ph _ _ _ _ _ _ _ => hSt
  refine take_ph 12 (.pointer (some ⟨c, 0, none⟩)) [] rfl (by kernel_rfl) (fun _ _ _ h => h) (Or.inl ⟨by rfl, ?_⟩) hSt (fun hSn => ?_)
  · intro V _; go_simp
  clear hSt; rename Ph _ _ _ _ _ _ _ => hSt
  simp only [Act.put, List.setIfInBounds_toArray, List.set_cons_zero, List.set_cons_succ]
  refine take_ph 13 (.pointer (some ⟨c, 0, none⟩)) [] rfl (by kernel_rfl) (fun _ _ _ h => h) (Or.inl ⟨by rfl, ?_⟩) hSt (fun hSn => ?_)
  · intro V _; go_simp
  clear hSt; rename Ph _ _ _ _ _ _ _ => hSt
  simp only [Act.put, List.setIfInBounds_toArray, List.set_cons_zero, List.set_cons_succ]
  refine ready_store_ph 14 rfl (by kernel_rfl) rfl 100 _ _ rfl _ _ rfl rfl (hst8) (⟨trivial, fun h => absurd (show true = false from h) (by decide), fun _ => trivial⟩) (fun hSn => ?_)
  clear hSt; rename Ph _ _ _ _ _ _ _ => hSt
  simp only [Act.put]
  refine done_ph (by kernel_rfl) ?_ _
  clear hSt
  refine NoPanic.normal ?_
  have HZ : Hid (SplitTo w M q c (I1 ++ y :: I2) K1 K2 J1 [] J2 [] (.returned (.tuple #[])) V8) := by
    obtain ⟨hqc, hqr, hcr, hr0⟩ := HD.out
    refine ⟨rfl, _, r, HS8.out.1, HE1.out.trans HS8.out.2, hr0, ⟨_, (upd_other _ _ hqc).trans HM3.out.1, HN2.out.1, by simp⟩, ⟨_, upd_self _ _ _, by simp, HX.out.2.2⟩, ?_, fun k h1 h2 h3 => ?_⟩
    · obtain ⟨nr, hnr, e1, e2⟩ := HR1.out
      exact ⟨nr, (upd_other _ _ (Ne.symm hcr)).trans ((HM3.out.2 r (Ne.symm hqr)).trans hnr), e1, e2⟩
    · exact (upd_other _ _ h2).trans ((HM3.out.2 k h1).trans (HRe.out k h1 h2 h3))
  clear HS8 HS6 HE1 HX HR1 HRe HM3
  go_wp2_with fail
  go_end0
  exact HZ.out
end Go.Proofs.YtagamkahfiackaaGreatDoor

namespace Go.Proofs.YtagamkahfiackaaGreatDoor
open Go.RowKit Go.Sort

set_option maxRecDepth 100000 in
set_option maxHeartbeats 2000000 in
theorem split_inner {w : World} {M : Nat → Option Nd} {q c : Nat} {n nc : Nd} {I1 I2 : List It} {K1 K2 : List Nat} {J1 J2 : List It} {y : It} {C1 C2 : List Nat} (h : Store w M) (hq : M q = some n) (hc : M c = some nc) (hqc : q ≠ c)
    (hI : n.its = I1 ++ I2) (hK : n.ks = K1 ++ c :: K2) (hIK : I1.length = K1.length) (hn : n.its.length ≤ 1000) (hn2 : n.ks.length ≤ 1000) (hJ : nc.its = J1 ++ y :: J2) (hJ1 : J1.length = 4) (hJ2 : J2.length = 3) (hks : nc.ks = C1 ++ C2) (hC1 : C1.length = 5) (hC2 : C2.length = 4) :
    Calls Tryz.prog 52 #[.pointer (some ⟨q, 0, none⟩), .int .i64 I1.length] w (SplitTo w M q c (I1 ++ y :: I2) K1 K2 J1 C1 J2 C2) := by
  obtain ⟨gq, cq, hqcv, hgq, hkc, _, hcq63⟩ := h.kid hq hK
  obtain ⟨gc, cc, hciv, hgc, hy1, hy2, _, _, hcc63⟩ := h.item hc hJ
  have hkl9 : nc.ks.length = 9 := by rw [hks]; simp; omega
  obtain ⟨gk, ck, _, hccv, hgk, hk9, hk9m, _⟩ := row_open (h.ks c nc hc) (by omega)
  rw [hkl9] at hccv hk9
  have hck63 : ck ≤ 9223372036854775807 := by unfold maxLen at hk9m; omega
  have hck5 : ¬ ck = 5 := by omega
  obtain ⟨aq, cqi, hqiv, _⟩ := row_shape (h.its q n hq)
  obtain ⟨q0, q1, _, _⟩ := h.cells hq
  obtain ⟨c0, c1, _, _⟩ := h.cells hc
  rw [hqcv, ← hIK] at q1
  rw [hciv, hJ1, hJ2] at c0
  rw [hccv] at c1
  rw [← hIK] at hkc
  rw [hJ1] at hy1 hy2
  have hnl : n.its.length = I1.length + I2.length := by rw [hI]; simp
  have hkl : n.ks.length = I1.length + K2.length + 1 := by rw [hK, hIK]; simp; omega
  have hql := h.node_lt hq
  have hcl := h.node_lt hc
  have hrow : RowI w (.slice (some ⟨gc, 0, none⟩) 8 cc) nc.its := by have := h.its c nc hc; rw [hciv, hJ1, hJ2] at this; exact this
  have hJl : nc.its.length = 8 := by rw [hJ]; simp; omega
  have hcc5 : ¬ cc = 5 := by
    obtain ⟨_, _, e, _, _, h8, _⟩ := row_shape hrow
    simp only [Value.slice.injEq] at e
    omega
  have hsrc : ∀ j u, (cI J2)[j]? = some u → w.cell? ⟨gc, 10 + j, none⟩ = some u := fun j u hj => by
    unfold RowI at hrow
    rw [hJl] at hrow
    have hjl : j < (cI J2).length := (List.getElem?_eq_some_iff.1 hj).1
    rw [cI_len, hJ2] at hjl
    rw [hrow.cellAt (10 + j) (by omega), hJ, show J1 ++ y :: J2 = (J1 ++ [y]) ++ J2 by simp, cI_append, List.getElem?_append_right (by rw [cI_len]; simp; omega), cI_len, ← hj]
    congr 1
    simp; omega
  have HC : Hid (Calls Tryz.prog 67 #[.slice (some ⟨gc, 10, none⟩) 3 (cc - 5)] w fun e V1 => ∃ g1 c1 r X1, e = .returned (.slice (some ⟨g1, 0, none⟩) 3 c1) ∧ Hid (∀ (a : Act) (o : Oper) (y : Operand), o.op = .box 103 y → a.eval y = .agg #[.slice (some ⟨g1, 0, none⟩) 3 c1, .slice none 0 0] → (execOp a.eval o).run Tryz.prog V1 = .ok (.value (.pointer (some ⟨r, 0, none⟩))) X1) ∧ X1.cell? ⟨c, 1, none⟩ = some (.slice (some ⟨gk, 0, none⟩) 9 ck) ∧ Hid (w.heap.size ≤ r ∧ Store X1 (upd M r ⟨J2, [], .slice (some ⟨g1, 0, none⟩) 3 c1, .slice none 0 0⟩) ∧ Ext (Own M) (Own (upd M r ⟨J2, [], .slice (some ⟨g1, 0, none⟩) 3 c1, .slice none 0 0⟩)) w X1)) := by
    refine (cloI_ gc 10 3 (cc - 5) (cI J2) (by omega) (by omega) (by rw [cI_len, hJ2]) hsrc (cI_one _)).mono ?_
    rintro e V1 ⟨g1, c1, hg1, rfl, hr1, hb1⟩
    have hbl := below_step hb1 (below_alloc V1 (.cells #[.slice (some ⟨g1, 0, none⟩) 3 c1, .slice none 0 0] 103))
    refine ⟨g1, c1, V1.heap.size, V1.alloc (.cells #[.slice (some ⟨g1, 0, none⟩) 3 c1, .slice none 0 0] 103), rfl, fun a o y h1 h2 => run_boxN V1 a o y _ _ h1 h2, ?_, hb1.size, ?_⟩
    · have := (h.on hbl).cells hc
      rw [this.2.1, hccv]
    · refine h.add (n := ⟨J2, [], .slice (some ⟨g1, 0, none⟩) 3 c1, .slice none 0 0⟩) hbl hb1.size (new_blk _ _) ?_ (World.ownsRow_nil _ _ _ _) (fun k e => ?_) (fun k e => by cases e)
      · unfold RowI
        rw [hJ2]
        exact row_on hr1 (below_alloc _ _)
      · simp only [Value.ownBlock, Option.some.injEq] at e
        omega
  have w1 := wraps_i64 ((I1.length : Int) + 1) (by omega) (by omega)
  have H0 := Lib.hid h
  have HQ := Lib.hid hq
  have HCC := Lib.hid hc
  have hk1 : ((I1.length : Int) + 1) = ((K1 ++ [c]).length : Nat) := by simp; omega
  have HK1 := Lib.hid hk1
  have HIV : Hid (nc.iv = .slice (some ⟨gc, 0, none⟩) 8 cc) := by show nc.iv = _; rw [hciv, hJ1, hJ2]
  have HCV := Lib.hid hqcv
  clear h hq hc hrow hsrc hk1 hciv hqcv hy1 hy2
  have hqi : (I1.length : Int) < (I1.length : Int) + (K2.length : Int) + 1 := by omega
  obtain ⟨i1, hi1⟩ : ∃ i1, i1 = I1.length := ⟨_, rfl⟩
  obtain ⟨k2, hk2⟩ : ∃ k2, k2 = K2.length := ⟨_, rfl⟩
  have HI1 := Lib.hid hi1
  rw [← hi1] at hkc q1 w1 hqi HK1 hnl hkl ⊢
  rw [← hk2] at q1 hqi hkl
  unfold pt at hkc
  have HCV2 : Hid (n.cv = .slice (some ⟨gq, 0, none⟩) (i1 + k2 + 1) cq) := by show _ = _; rw [HCV.out, hi1, hk2, hIK]
  have HP := Lib.hid (And.intro hI (And.intro hK (And.intro hIK (And.intro hJ (And.intro hJ1 (And.intro hJ2 (And.intro hn hn2)))))))
  have HQI := Lib.hid hqiv
  have HKS := Lib.hid (And.intro hks (And.intro hC1 hC2))
  have HKV := Lib.hid hccv
  clear hi1 hk2 hccv hI hK hIK hJ hJ1 hJ2 hn hn2 hnl hkl hqiv hks hJl hqi hC1 hC2 hkl9 hgk hk9 hk9m
  go_enter Tryz.func52, Tryz.ntmps52
  have HC2 : Hid (∀ X1 M0 r nr0, Store X1 M0 → M0 c = some nc → M0 r = some nr0 → nr0.cv = .slice none 0 0 → Calls Tryz.prog 68 #[.slice (some ⟨gk, 5, none⟩) 4 (ck - 5)] X1 fun e V => ∃ g2 c2 X2, e = .returned (.slice (some ⟨g2, 0, none⟩) 4 c2) ∧ (Instr.storeAt 101 (.pointer (some ⟨r, 1, none⟩)) (.slice (some ⟨g2, 0, none⟩) 4 c2)).run Tryz.prog V = .ok () X2 ∧ Hid (Store X2 (upd M0 r { nr0 with cv := .slice (some ⟨g2, 0, none⟩) 4 c2, ks := C2 }) ∧ Ext (Own M0) (Own (upd M0 r { nr0 with cv := .slice (some ⟨g2, 0, none⟩) 4 c2, ks := C2 })) X1 X2)) := by
    intro X1 M0 r nr0 h hc hr hv
    obtain ⟨hks, hC1, hC2⟩ := HKS.out
    have hrow : X1.ownsRow 0 82 1 (.slice (some ⟨gk, 0, none⟩) 9 ck) 9 (cP nc.ks) := by
      have := h.ks c nc hc
      unfold RowP at this
      rw [HKV.out, show nc.ks.length = 9 by rw [hks]; simp; omega] at this
      exact this
    have hsrc : ∀ j u, (cP C2)[j]? = some u → X1.cell? ⟨gk, 5 + j, none⟩ = some u := fun j u hj => by
      have hjl : j < (cP C2).length := (List.getElem?_eq_some_iff.1 hj).1
      rw [cP_len, hC2] at hjl
      rw [hrow.cellAt (5 + j) (by omega), hks, cP_append, List.getElem?_append_right (by rw [cP_len]; omega), cP_len, ← hj]
      congr 1
      omega
    refine (cloP_ gk 5 4 (ck - 5) (cP C2) (by omega) (by omega) (by rw [cP_len, hC2]) hsrc (cP_one _)).mono ?_
    rintro e V ⟨g2, c2, hg2, rfl, hr2, hb2⟩
    have hrr : RowP V (.slice (some ⟨g2, 0, none⟩) 4 c2) C2 := by unfold RowP; rw [hC2]; exact hr2
    obtain ⟨a, m, c3, X2, e1, hst, s1, s2⟩ := putP_of h hr (V1 := V) (grown_below _ hb2) hrr (fun k e => by
      simp only [Value.ownBlock, Option.some.injEq] at e
      exact .inr (by omega))
    cases e1
    exact ⟨g2, c2, X2, rfl, hst, s1, s2⟩
  go_wp2_with (first
    | (go_at_call 67; refine HC.out.mono ?_; rintro e V1 ⟨g1, c1', r, X1, rfl, HB, hw1, HS⟩)
    | (refine wpList_exec rfl (HB.out _ _ _ rfl rfl) ?_; have HC3 := Lib.hid (HC2.out X1 _ r _ HS.out.2.1 ((upd_other _ _ (show c ≠ r by have := HS.out.1; omega)).trans HCC.out) (upd_self _ _ _) rfl))
    | (go_at_call 68; refine HC3.out.mono ?_; rintro e X1' ⟨g2, c2, X2, rfl, hst2, HS2⟩)
    | (refine wpList_store_at rfl _ _ _ rfl _ _ rfl rfl hst2 ?_)
    | fail)
  obtain ⟨M2, hM2⟩ : ∃ M2, M2 = upd (upd M r ⟨J2, [], .slice (some ⟨g1, 0, none⟩) 3 c1', .slice none 0 0⟩) r ⟨J2, C2, .slice (some ⟨g1, 0, none⟩) 3 c1', .slice (some ⟨g2, 0, none⟩) 4 c2⟩ := ⟨_, rfl⟩
  have HD : Hid (q ≠ c ∧ q ≠ r ∧ c ≠ r ∧ w.heap.size ≤ r) := by
    have := HS.out.1
    exact ⟨hqc, by omega, by omega, this⟩
  have HS3 : Hid (Store X2 M2 ∧ Ext (Own M) (Own M2) w X2) := by rw [hM2]; exact ⟨HS2.out.1, HS.out.2.2.trans HS2.out.2⟩
  have HM2 : Hid (M2 r = some ⟨J2, C2, .slice (some ⟨g1, 0, none⟩) 3 c1', .slice (some ⟨g2, 0, none⟩) 4 c2⟩ ∧ ∀ k, k ≠ r → M2 k = M k) := by
    refine ⟨by rw [hM2]; exact upd_self _ _ _, fun k hk => by rw [hM2, upd_other _ _ hk, upd_other _ _ hk]⟩
  have HC4 : Hid (M2 c = some nc) := (HM2.out.2 c HD.out.2.2.1).trans HCC.out
  clear hM2 HS2 HS hst2 HC3 HC2 HC hw1
  have F1 : Hid (∀ V, Below X2.heap.size X2 V → V.cell? ⟨c, 1, none⟩ = some (.slice (some ⟨gk, 0, none⟩) 9 ck)) := fun V hV => by
    rw [((HS3.out.1.on hV).cells HC4.out).2.1, HKV.out]
  have HIn : Hid (Calls Tryz.prog 69 #[.slice (some ⟨gk, 0, none⟩) 9 ck, .int .i64 5, .int .i64 9] X2.drew fun e V1 => ∃ a m c' V2, e = .returned (.slice a m c') ∧ (Instr.storeAt 101 (.pointer (some ⟨c, 1, none⟩)) (.slice a m c')).run Tryz.prog V1 = .ok () V2 ∧ Hid (Store V2 (upd M2 c { nc with cv := .slice a m c', ks := C1 ++ [] }) ∧ Ext (Own M) (Own (upd M2 c { nc with cv := .slice a m c', ks := C1 ++ [] })) w V2)) := by
    obtain ⟨hks, hC1, hC2⟩ := HKS.out
    have hh := delP_node HS3.out.1.drew HC4.out (l1 := C1) (l2 := C2) (l3 := []) (by rw [hks]; simp) (fun e => by rw [e] at hC2; cases hC2) (by rw [hks]; simp; omega)
    rw [hC1, hC2, HKV.out] at hh
    refine hh.mono ?_
    rintro e V1 ⟨v', rfl, a, m, c', V2, rfl, hst, s1, s2⟩
    exact ⟨a, m, c', V2, rfl, hst, s1, (HS3.out.2.trans (Ext.of_below _ (below_drew X2))).trans s2⟩
  have w5 := wraps_i64 5 (by omega) (by omega)
  refine wp_region_noPanic ?_
  refine region_ph (A := fun _ => True) (e1 := 12) (B := (fun V => Below X2.heap.size X2 V)) (e2 := 12) (C := (fun _ => True)) (by kernel_rfl) (⟨trivial, fun _ => below_drew X2, fun _ => trivial⟩) (fun hSt => ?_)
  refine take_ph 0 (.pointer (some ⟨c, 0, none⟩)) [] rfl (by kernel_rfl) (fun _ _ _ h => h) (Or.inl ⟨by rfl, ?_⟩) hSt (fun hSn => ?_)
  · intro V _; go_simp
  clear hSt; rename Ph _ _ _ _ _ _ _ => hSt
  simp only [Act.put, List.setIfInBounds_toArray, List.set_cons_zero, List.set_cons_succ]
  refine take_ph 1 (.pointer (some ⟨c, 0, none⟩)) [] rfl (by kernel_rfl) (fun _ _ _ h => h) (Or.inl ⟨by rfl, ?_⟩) hSt (fun hSn => ?_)
  · intro V _; go_simp
  clear hSt; rename Ph _ _ _ _ _ _ _ => hSt
  simp only [Act.put, List.setIfInBounds_toArray, List.set_cons_zero, List.set_cons_succ]
  refine take_ph 2 (.pointer (some ⟨c, 0, none⟩)) [] rfl (by kernel_rfl) (fun _ _ _ h => h) (Or.inl ⟨by rfl, ?_⟩) hSt (fun hSn => ?_)
  · intro V _; go_simp
  clear hSt; rename Ph _ _ _ _ _ _ _ => hSt
  simp only [Act.put, List.setIfInBounds_toArray, List.set_cons_zero, List.set_cons_succ]
  refine take_ph 3 (.pointer (some ⟨c, 1, none⟩)) [] rfl (by kernel_rfl) (fun _ _ _ h => h) (Or.inl ⟨by rfl, ?_⟩) hSt (fun hSn => ?_)
  · intro V _; go_simp
  clear hSt; rename Ph _ _ _ _ _ _ _ => hSt
  simp only [Act.put, List.setIfInBounds_toArray, List.set_cons_zero, List.set_cons_succ]
  refine take_ph 4 (.slice (some ⟨gk, 0, none⟩) 9 ck) [12] rfl (by kernel_rfl) (fun _ _ _ h => h) (Or.inl ⟨by rfl, ?_⟩) hSt (fun hSn => ?_)
  · rintro V ⟨_, hB, hC⟩; have hh := hB (by decide); have e0 := F1.out V hh; clear hB hC; go_simp
  clear hSt; rename Ph _ _ _ _ _ _ _ => hSt
  simp only [Act.put, List.setIfInBounds_toArray, List.set_cons_zero, List.set_cons_succ]
  refine take_ph 5 (.int .i64 4) [] rfl (by kernel_rfl) (fun _ _ _ h => h) (Or.inl ⟨by rfl, ?_⟩) hSt (fun hSn => ?_)
  · intro V _; go_simp
  clear hSt; rename Ph _ _ _ _ _ _ _ => hSt
  simp only [Act.put, List.setIfInBounds_toArray, List.set_cons_zero, List.set_cons_succ]
  refine take_ph 6 (.int .i64 5) [] rfl (by kernel_rfl) (fun _ _ _ h => h) (Or.inl ⟨by rfl, ?_⟩) hSt (fun hSn => ?_)
  · intro V _; go_simp
  clear hSt; rename Ph _ _ _ _ _ _ _ => hSt
  simp only [Act.put, List.setIfInBounds_toArray, List.set_cons_zero, List.set_cons_succ]
  refine take_ph 7 (.pointer (some ⟨c, 0, none⟩)) [] rfl (by kernel_rfl) (fun _ _ _ h => h) (Or.inl ⟨by rfl, ?_⟩) hSt (fun hSn => ?_)
  · intro V _; go_simp
  clear hSt; rename Ph _ _ _ _ _ _ _ => hSt
  simp only [Act.put, List.setIfInBounds_toArray, List.set_cons_zero, List.set_cons_succ]
  refine take_ph 8 (.pointer (some ⟨c, 0, none⟩)) [] rfl (by kernel_rfl) (fun _ _ _ h => h) (Or.inl ⟨by rfl, ?_⟩) hSt (fun hSn => ?_)
  · intro V _; go_simp
  clear hSt; rename Ph _ _ _ _ _ _ _ => hSt
  simp only [Act.put, List.setIfInBounds_toArray, List.set_cons_zero, List.set_cons_succ]
  refine take_ph 9 (.pointer (some ⟨c, 1, none⟩)) [] rfl (by kernel_rfl) (fun _ _ _ h => h) (Or.inl ⟨by rfl, ?_⟩) hSt (fun hSn => ?_)
  · intro V _; go_simp
  clear hSt; rename Ph _ _ _ _ _ _ _ => hSt
  simp only [Act.put, List.setIfInBounds_toArray, List.set_cons_zero, List.set_cons_succ]
  refine take_ph 10 (.slice (some ⟨gk, 0, none⟩) 9 ck) [11, 12] rfl (by kernel_rfl) (fun _ _ _ h => h) (Or.inl ⟨by rfl, ?_⟩) hSt (fun hSn => ?_)
  · rintro V ⟨_, hB, hC⟩; have hh := hB (by decide); have e0 := F1.out V hh; clear hB hC; go_simp
  clear hSt; rename Ph _ _ _ _ _ _ _ => hSt
  simp only [Act.put, List.setIfInBounds_toArray, List.set_cons_zero, List.set_cons_succ]
  refine take_ph 11 (.int .i64 9) [] rfl (by kernel_rfl) (fun _ _ _ h => h) (Or.inl ⟨by rfl, ?_⟩) hSt (fun hSn => ?_)
  · intro V _; go_simp
  clear hSt; rename Ph _ _ _ _ _ _ _ => hSt
  simp only [Act.put, List.setIfInBounds_toArray, List.set_cons_zero, List.set_cons_succ]
  refine ready_call_ph 12 rfl (by kernel_rfl) (fun KK hK => ?_)
  go_simp
  go_wp2_with (first | (go_at_call 69; refine HIn.out.mono ?_; rintro e X3 ⟨a7, m7, c7, W1, rfl, hst8, HS8⟩))
  refine hK.out _ _ ?_ (fun hSn => ?_)
  · exact ⟨trivial, fun h => absurd (show true = false from h) (by decide), fun _ => trivial⟩
  clear hK KK hSt; rename Ph _ _ _ _ _ _ _ => hSt
  refine take_ph 13 (.pointer (some ⟨c, 0, none⟩)) [] rfl (by kernel_rfl) (fun _ _ _ h => h) (Or.inl ⟨by rfl, ?_⟩) hSt (fun hSn => ?_)
  · intro V _; go_simp
  clear hSt; rename Ph _ _ _ _ _ _ _ => hSt
  simp only [Act.put, List.setIfInBounds_toArray, List.set_cons_zero, List.set_cons_succ]
  refine take_ph 14 (.pointer (some ⟨c, 1, none⟩)) [] rfl (by kernel_rfl) (fun _ _ _ h => h) (Or.inl ⟨by rfl, ?_⟩) hSt (fun hSn => ?_)
  · intro V _; go_simp
  clear hSt; rename Ph _ _ _ _ _ _ _ => hSt
  simp only [Act.put, List.setIfInBounds_toArray, List.set_cons_zero, List.set_cons_succ]
  refine ready_store_ph 15 rfl (by kernel_rfl) rfl 101 _ _ rfl _ _ rfl rfl (hst8) (⟨trivial, fun h => absurd (show true = false from h) (by decide), fun _ => trivial⟩) (fun hSn => ?_)
  clear hSt; rename Ph _ _ _ _ _ _ _ => hSt
  simp only [Act.put]
  refine done_ph (by kernel_rfl) ?_ _
  clear hSt
  refine NoPanic.normal ?_
  clear F1 HIn hst8
  go_wp2_with fail
  obtain ⟨ncx, hncx⟩ : ∃ ncx : Nd, ncx = { nc with cv := .slice a7 m7 c7, ks := C1 ++ [] } := ⟨_, rfl⟩
  rw [← hncx] at HS8
  obtain ⟨M1, hM1⟩ : ∃ M1, M1 = upd M2 c ncx := ⟨_, rfl⟩
  rw [← hM1] at HS8
  have HS1 : Hid (Store W1 M1) := HS8.out.1
  have HE1 : Hid (Ext (Own M) (Own M1) w W1) := HS8.out.2
  have HQ1 : Hid (M1 q = some n) := by show M1 q = _; rw [hM1]; exact (upd_other _ _ HD.out.1).trans ((HM2.out.2 q HD.out.2.1).trans HQ.out)
  have HC1 : Hid (M1 c = some ncx) := by show M1 c = _; rw [hM1]; exact upd_self _ _ _
  have HX : Hid (ncx.its = nc.its ∧ ncx.iv = nc.iv ∧ ncx.ks = C1) := by rw [hncx]; exact ⟨rfl, rfl, List.append_nil _⟩
  have HR1 : Hid (∃ nr, M1 r = some nr ∧ nr.its = J2 ∧ nr.ks = C2) := by rw [hM1]; exact ⟨_, (upd_other _ _ (Ne.symm HD.out.2.2.1)).trans HM2.out.1, rfl, rfl⟩
  have HRe : Hid (∀ k, k ≠ q → k ≠ c → k ≠ r → M1 k = M k) := by rw [hM1]; exact fun k _ h2 h3 => (upd_other _ _ h2).trans (HM2.out.2 k h3)
  clear hM1 hncx HS8 HS3 HM2 HC4
  obtain ⟨nl, hnl'⟩ : ∃ nl, nl = n.its.length := ⟨_, rfl⟩
  have F1 : Hid (∀ V, Below W1.heap.size W1 V → V.cell? ⟨q, 0, none⟩ = some (.slice aq nl cqi)) := fun V hV => by
    rw [((HS1.out.on hV).cells HQ1.out).1, HQI.out, hnl']
  have F2 : Hid (∀ V, Below W1.heap.size W1 V → V.cell? ⟨c, 0, none⟩ = some (.slice (some ⟨gc, 0, none⟩) 8 cc)) := fun V hV => by
    rw [((HS1.out.on hV).cells HC1.out).1, HX.out.2.1, HIV.out]
  have F3 : Hid (∀ V, Below W1.heap.size W1 V → V.cell? ⟨gc, 8, none⟩ = some (.string y.1) ∧ V.cell? ⟨gc, 9, none⟩ = some (.slice y.2.a y.2.n y.2.c)) := fun V hV => by
    obtain ⟨_, _, _, hJ, hJ1, _⟩ := HP.out
    obtain ⟨g', c', e1, _, e2, e3, _, _, e4⟩ := (HS1.out.on hV).item HC1.out (HX.out.1.trans hJ)
    rw [hJ1, HX.out.2.1, HIV.out] at e1
    simp only [Value.slice.injEq, Option.some.injEq, Addr.mk.injEq] at e1
    obtain ⟨⟨rfl, _⟩, _⟩ := e1
    rw [hJ1] at e2 e3
    exact ⟨e2, e3⟩
  obtain ⟨U1, hU1⟩ : ∃ U, U = W1.drew.alloc (.cells (cI [y]).toArray 99) := ⟨_, rfl⟩
  have HB2 : Hid (Below W1.heap.size W1 U1) := by show Below _ _ _; rw [hU1]; exact below_step (below_drew W1) (below_alloc W1.drew _)
  have hrb : Hid (∀ (a : Act) (o : Oper) (z : Operand), o.op = .buildSlice 100 1 #[(0, z)] → a.eval z = itV y → (execOp a.eval o).run Tryz.prog W1.drew = .ok (.value (.slice (some ⟨W1.heap.size, 0, none⟩) 1 1)) U1) := fun a o z h1 h2 => by rw [hU1]; exact run_buildI W1.drew y a o z h1 h2
  have HIn : Hid (Calls Tryz.prog 66 #[.slice aq nl cqi, .int .i64 i1, .slice (some ⟨W1.heap.size, 0, none⟩) 1 1] U1 fun e V1 => ∃ a m c V2, e = .returned (.slice a m c) ∧ (Instr.storeAt 100 (.pointer (some ⟨q, 0, none⟩)) (.slice a m c)).run Tryz.prog V1 = .ok () V2 ∧ Hid (Store V2 (upd M1 q { n with iv := .slice a m c, its := I1 ++ y :: I2 }) ∧ Ext (Own M1) (Own (upd M1 q { n with iv := .slice a m c, its := I1 ++ y :: I2 })) W1 V2)) := by
    obtain ⟨hI, _, _, _, _, _, hn, _⟩ := HP.out
    have hub : U1.heap[W1.heap.size]? = some (.cells (cI [y]).toArray 99 (0, 0)) := by rw [hU1]; exact new_blk W1.drew _
    have hh := insI_node (HS1.out.on HB2.out) HQ1.out hI hn (x := y) hub (HS1.out.not_own (Nat.le_refl _))
    rw [← HI1.out, HQI.out, ← hnl'] at hh
    refine hh.mono ?_
    rintro e V1 ⟨v', rfl, a, m, c, V2, rfl, hst, s1, s2⟩
    exact ⟨a, m, c, V2, rfl, hst, s1, (Ext.of_below _ HB2.out).trans s2⟩
  clear hnl' hU1
  refine wp_region_noPanic ?_
  refine region_ph (A := fun _ => True) (e1 := 14) (B := (fun V => Below W1.heap.size W1 V)) (e2 := 14) (C := (fun _ => True)) (by kernel_rfl) (⟨trivial, fun _ => below_drew W1, fun _ => trivial⟩) (fun hSt => ?_)
  refine take_ph 0 (.pointer (some ⟨q, 0, none⟩)) [] rfl (by kernel_rfl) (fun _ _ _ h => h) (Or.inl ⟨by rfl, ?_⟩) hSt (fun hSn => ?_)
  · intro V _; go_simp
  clear hSt; rename Ph _ _ _ _ _ _ _ => hSt
  simp only [Act.put, List.setIfInBounds_toArray, List.set_cons_zero, List.set_cons_succ]
  refine take_ph 1 (.pointer (some ⟨q, 0, none⟩)) [] rfl (by kernel_rfl) (fun _ _ _ h => h) (Or.inl ⟨by rfl, ?_⟩) hSt (fun hSn => ?_)
  · intro V _; go_simp
  clear hSt; rename Ph _ _ _ _ _ _ _ => hSt
  simp only [Act.put, List.setIfInBounds_toArray, List.set_cons_zero, List.set_cons_succ]
  refine take_ph 2 (.pointer (some ⟨q, 0, none⟩)) [] rfl (by kernel_rfl) (fun _ _ _ h => h) (Or.inl ⟨by rfl, ?_⟩) hSt (fun hSn => ?_)
  · intro V _; go_simp
  clear hSt; rename Ph _ _ _ _ _ _ _ => hSt
  simp only [Act.put, List.setIfInBounds_toArray, List.set_cons_zero, List.set_cons_succ]
  refine take_ph 3 (.pointer (some ⟨q, 0, none⟩)) [] rfl (by kernel_rfl) (fun _ _ _ h => h) (Or.inl ⟨by rfl, ?_⟩) hSt (fun hSn => ?_)
  · intro V _; go_simp
  clear hSt; rename Ph _ _ _ _ _ _ _ => hSt
  simp only [Act.put, List.setIfInBounds_toArray, List.set_cons_zero, List.set_cons_succ]
  refine take_ph 4 (.slice aq nl cqi) [14] rfl (by kernel_rfl) (fun _ _ _ h => h) (Or.inl ⟨by rfl, ?_⟩) hSt (fun hSn => ?_)
  · rintro V ⟨_, hB, hC⟩; have hh := hB (by decide); have e0 := F1.out V hh; clear hB hC; go_simp
  clear hSt; rename Ph _ _ _ _ _ _ _ => hSt
  simp only [Act.put, List.setIfInBounds_toArray, List.set_cons_zero, List.set_cons_succ]
  refine take_ph 5 (.int .i64 i1) [] rfl (by kernel_rfl) (fun _ _ _ h => h) (Or.inl ⟨by rfl, ?_⟩) hSt (fun hSn => ?_)
  · intro V _; go_simp
  clear hSt; rename Ph _ _ _ _ _ _ _ => hSt
  simp only [Act.put, List.setIfInBounds_toArray, List.set_cons_zero, List.set_cons_succ]
  refine take_ph 6 (.pointer (some ⟨c, 0, none⟩)) [] rfl (by kernel_rfl) (fun _ _ _ h => h) (Or.inl ⟨by rfl, ?_⟩) hSt (fun hSn => ?_)
  · intro V _; go_simp
  clear hSt; rename Ph _ _ _ _ _ _ _ => hSt
  simp only [Act.put, List.setIfInBounds_toArray, List.set_cons_zero, List.set_cons_succ]
  refine take_ph 7 (.pointer (some ⟨c, 0, none⟩)) [] rfl (by kernel_rfl) (fun _ _ _ h => h) (Or.inl ⟨by rfl, ?_⟩) hSt (fun hSn => ?_)
  · intro V _; go_simp
  clear hSt; rename Ph _ _ _ _ _ _ _ => hSt
  simp only [Act.put, List.setIfInBounds_toArray, List.set_cons_zero, List.set_cons_succ]
  refine take_ph 8 (.pointer (some ⟨c, 0, none⟩)) [] rfl (by kernel_rfl) (fun _ _ _ h => h) (Or.inl ⟨by rfl, ?_⟩) hSt (fun hSn => ?_)
  · intro V _; go_simp
  clear hSt; rename Ph _ _ _ _ _ _ _ => hSt
  simp only [Act.put, List.setIfInBounds_toArray, List.set_cons_zero, List.set_cons_succ]
  refine take_ph 9 (.slice (some ⟨gc, 0, none⟩) 8 cc) [11, 12, 13, 14] rfl (by kernel_rfl) (fun _ _ _ h => h) (Or.inl ⟨by rfl, ?_⟩) hSt (fun hSn => ?_)
  · rintro V ⟨_, hB, hC⟩; have hh := hB (by decide); have e0 := F2.out V hh; clear hB hC; go_simp
  clear hSt; rename Ph _ _ _ _ _ _ _ => hSt
  simp only [Act.put, List.setIfInBounds_toArray, List.set_cons_zero, List.set_cons_succ]
  refine take_ph 10 (.int .i64 4) [] rfl (by kernel_rfl) (fun _ _ _ h => h) (Or.inl ⟨by rfl, ?_⟩) hSt (fun hSn => ?_)
  · intro V _; go_simp
  clear hSt; rename Ph _ _ _ _ _ _ _ => hSt
  simp only [Act.put, List.setIfInBounds_toArray, List.set_cons_zero, List.set_cons_succ]
  refine take_ph 11 (.pointer (some ⟨gc, 8, none⟩)) [] rfl (by kernel_rfl) (fun _ _ _ h => h) (Or.inl ⟨by rfl, ?_⟩) hSt (fun hSn => ?_)
  · intro V _; go_simp
  clear hSt; rename Ph _ _ _ _ _ _ _ => hSt
  simp only [Act.put, List.setIfInBounds_toArray, List.set_cons_zero, List.set_cons_succ]
  refine take_ph 12 (.agg #[.string y.1, .slice y.2.a y.2.n y.2.c]) [13, 14] rfl (by kernel_rfl) (fun _ _ _ h => h) (Or.inl ⟨by rfl, ?_⟩) hSt (fun hSn => ?_)
  · rintro V ⟨_, hB, hC⟩; have hh := hB (by decide); have e0 := F3.out V hh; clear hB hC; go_simp
  clear hSt; rename Ph _ _ _ _ _ _ _ => hSt
  simp only [Act.put, List.setIfInBounds_toArray, List.set_cons_zero, List.set_cons_succ]
  refine ready_ph 13 rfl (by kernel_rfl) rfl (.inl (hrb.out _ _ _ rfl rfl)) (⟨trivial, fun _ => HB2.out, fun _ => trivial⟩) (fun hSn => ?_)
  clear hSt; rename Ph _ _ _ _ _ _ _ => hSt
  simp only [Act.put, List.setIfInBounds_toArray, List.set_cons_zero, List.set_cons_succ]
  refine ready_call_ph 14 rfl (by kernel_rfl) (fun KK hK => ?_)
  go_simp
  go_wp2_with (first | (go_at_call 66; refine HIn.out.mono ?_; rintro e V3 ⟨a5, m5, c5, V4, rfl, hst4, HS4⟩))
  refine hK.out _ _ ?_ (fun hSn => ?_)
  · exact ⟨trivial, fun h => absurd (show true = false from h) (by decide), fun _ => trivial⟩
  clear hK KK hSt; rename Ph _ _ _ _ _ _ _ => hSt
  refine take_ph 15 (.pointer (some ⟨q, 0, none⟩)) [] rfl (by kernel_rfl) (fun _ _ _ h => h) (Or.inl ⟨by rfl, ?_⟩) hSt (fun hSn => ?_)
  · intro V _; go_simp
  clear hSt; rename Ph _ _ _ _ _ _ _ => hSt
  simp only [Act.put, List.setIfInBounds_toArray, List.set_cons_zero, List.set_cons_succ]
  refine take_ph 16 (.pointer (some ⟨q, 0, none⟩)) [] rfl (by kernel_rfl) (fun _ _ _ h => h) (Or.inl ⟨by rfl, ?_⟩) hSt (fun hSn => ?_)
  · intro V _; go_simp
  clear hSt; rename Ph _ _ _ _ _ _ _ => hSt
  simp only [Act.put, List.setIfInBounds_toArray, List.set_cons_zero, List.set_cons_succ]
  refine ready_store_ph 17 rfl (by kernel_rfl) rfl 100 _ _ rfl _ _ rfl rfl (hst4) (⟨trivial, fun h => absurd (show true = false from h) (by decide), fun _ => trivial⟩) (fun hSn => ?_)
  clear hSt; rename Ph _ _ _ _ _ _ _ => hSt
  simp only [Act.put]
  refine done_ph (by kernel_rfl) ?_ _
  clear hSt
  refine NoPanic.normal ?_
  clear F1 F2 F3 HIn hrb hst4 HB2
  obtain ⟨nq2, hnq2⟩ : ∃ nq2 : Nd, nq2 = { n with iv := .slice a5 m5 c5, its := I1 ++ y :: I2 } := ⟨_, rfl⟩
  rw [← hnq2] at HS4
  have HN2 : Hid (nq2.its = I1 ++ y :: I2 ∧ nq2.ks = n.ks ∧ nq2.cv = n.cv) := by rw [hnq2]; exact ⟨rfl, rfl, rfl⟩
  clear hnq2
  have q2 : V4.cell? ⟨q, 1, none⟩ = some (.slice (some ⟨gq, 0, none⟩) (i1 + k2 + 1) cq) := by
    rw [(HS4.out.1.cells (upd_self _ _ _)).2.1, HN2.out.2.2, HCV2.out]
  obtain ⟨U2, hU2⟩ : ∃ U, U = V4.alloc (.cells (cP [r]).toArray 82) := ⟨_, rfl⟩
  have hrb : Hid (∀ (a : Act) (o : Oper) (z : Operand), o.op = .buildSlice 101 1 #[(0, z)] → a.eval z = .pointer (some ⟨r, 0, none⟩) → (execOp a.eval o).run Tryz.prog V4 = .ok (.value (.slice (some ⟨V4.heap.size, 0, none⟩) 1 1)) U2) := fun a o z h1 h2 => by rw [hU2]; exact run_buildP V4 r a o z h1 h2
  have HIn : Hid (Calls Tryz.prog 70 #[.slice (some ⟨gq, 0, none⟩) (i1 + k2 + 1) cq, .int .i64 ((i1 : Int) + 1), .slice (some ⟨V4.heap.size, 0, none⟩) 1 1] U2 fun e V1 => ∃ a m c' V2, e = .returned (.slice a m c') ∧ (Instr.storeAt 101 (.pointer (some ⟨q, 1, none⟩)) (.slice a m c')).run Tryz.prog V1 = .ok () V2 ∧ Hid (Store V2 (upd (upd M1 q nq2) q { nq2 with cv := .slice a m c', ks := (K1 ++ [c]) ++ r :: K2 }) ∧ Ext (Own M1) (Own (upd (upd M1 q nq2) q { nq2 with cv := .slice a m c', ks := (K1 ++ [c]) ++ r :: K2 })) W1 V2)) := by
    obtain ⟨_, hK, _, _, _, _, _, hn2⟩ := HP.out
    have hb2 : Below V4.heap.size V4 U2 := by rw [hU2]; exact below_alloc V4 _
    have hub : U2.heap[V4.heap.size]? = some (.cells (cP [r]).toArray 82 (0, 0)) := by rw [hU2]; exact new_blk V4 _
    have hh := insP_node (HS4.out.1.on hb2) (upd_self M1 q nq2) (l1 := K1 ++ [c]) (l2 := K2) (by rw [HN2.out.2.1, hK]; simp) (by rw [HN2.out.2.1]; exact hn2) (x := r) hub (HS4.out.1.not_own (Nat.le_refl _))
    rw [← HK1.out, HN2.out.2.2, HCV2.out] at hh
    refine hh.mono ?_
    rintro e V1 ⟨v', rfl, a, m, c', V2, rfl, hst, s1, s2⟩
    exact ⟨a, m, c', V2, rfl, hst, s1, (HS4.out.2.trans (Ext.of_below _ hb2)).trans s2⟩
  clear hU2
  go_wp2_with (first
    | (refine wpList_exec rfl (hrb.out _ _ _ rfl rfl) ?_)
    | (go_at_call 70; refine HIn.out.mono ?_; rintro e V5 ⟨a6, m6, c6, V6, rfl, hst6, HS6⟩)
    | (refine wpList_store_at rfl _ _ _ rfl _ _ rfl rfl hst6 ?_)
    | fail)
  obtain ⟨M3, hM3⟩ : ∃ M3, M3 = upd (upd M1 q nq2) q { nq2 with cv := .slice a6 m6 c6, ks := (K1 ++ [c]) ++ r :: K2 } := ⟨_, rfl⟩
  have HM3 : Hid (M3 q = some { nq2 with cv := .slice a6 m6 c6, ks := (K1 ++ [c]) ++ r :: K2 } ∧ ∀ k, k ≠ q → M3 k = M1 k) := by
    refine ⟨by rw [hM3]; exact upd_self _ _ _, fun k hk => by rw [hM3, upd_other _ _ hk, upd_other _ _ hk]⟩
  rw [← hM3] at HS6
  clear hM3 hst6 HIn hrb q2 HS4
  have HC3 : Hid (M3 c = some ncx) := (HM3.out.2 c (Ne.symm HD.out.1)).trans HC1.out
  have F1 : Hid (∀ V, Below V6.heap.size V6 V → V.cell? ⟨c, 0, none⟩ = some (.slice (some ⟨gc, 0, none⟩) 8 cc)) := fun V hV => by
    rw [((HS6.out.1.on hV).cells HC3.out).1, HX.out.2.1, HIV.out]
  have HIn : Hid (Calls Tryz.prog 71 #[.slice (some ⟨gc, 0, none⟩) 8 cc, .int .i64 4, .int .i64 8] V6.drew fun e V1 => ∃ a m c' V2, e = .returned (.slice a m c') ∧ (Instr.storeAt 100 (.pointer (some ⟨c, 0, none⟩)) (.slice a m c')).run Tryz.prog V1 = .ok () V2 ∧ Hid (Store V2 (upd M3 c { ncx with iv := .slice a m c', its := J1 ++ [] }) ∧ Ext (Own M1) (Own (upd M3 c { ncx with iv := .slice a m c', its := J1 ++ [] })) W1 V2)) := by
    obtain ⟨_, _, _, hJ, hJ1, hJ2, _⟩ := HP.out
    have hh := delI_node HS6.out.1.drew HC3.out (l1 := J1) (l2 := y :: J2) (l3 := []) (by rw [HX.out.1, hJ]; simp) (by simp) (by rw [HX.out.1, hJ]; simp; omega)
    rw [hJ1, HX.out.2.1, HIV.out, show ((4 + (y :: J2).length : Nat) : Int) = 8 by simp; omega] at hh
    refine hh.mono ?_
    rintro e V1 ⟨v', rfl, a, m, c', V2, rfl, hst, s1, s2⟩
    exact ⟨a, m, c', V2, rfl, hst, s1, (HS6.out.2.trans (Ext.of_below _ (below_drew V6))).trans s2⟩
  refine wp_region_noPanic ?_
  refine region_ph (A := fun _ => True) (e1 := 11) (B := (fun V => Below V6.heap.size V6 V)) (e2 := 11) (C := (fun _ => True)) (by kernel_rfl) (⟨trivial, fun _ => below_drew V6, fun _ => trivial⟩) (fun hSt => ?_)
  refine take_ph 0 (.pointer (some ⟨c, 0, none⟩)) [] rfl (by kernel_rfl) (fun _ _ _ h => h) (Or.inl ⟨by rfl, ?_⟩) hSt (fun hSn => ?_)
  · intro V _; go_simp
  clear hSt; rename Ph _ _ _ _ _ _ _ => hSt
  simp only [Act.put, List.setIfInBounds_toArray, List.set_cons_zero, List.set_cons_succ]
  refine take_ph 1 (.pointer (some ⟨c, 0, none⟩)) [] rfl (by kernel_rfl) (fun _ _ _ h => h) (Or.inl ⟨by rfl, ?_⟩) hSt (fun hSn => ?_)
  · intro V _; go_simp
  clear hSt; rename Ph _ _ _ _ _ _ _ => hSt
  simp only [Act.put, List.setIfInBounds_toArray, List.set_cons_zero, List.set_cons_succ]
  refine take_ph 2 (.pointer (some ⟨c, 0, none⟩)) [] rfl (by kernel_rfl) (fun _ _ _ h => h) (Or.inl ⟨by rfl, ?_⟩) hSt (fun hSn => ?_)
  · intro V _; go_simp
  clear hSt; rename Ph _ _ _ _ _ _ _ => hSt
  simp only [Act.put, List.setIfInBounds_toArray, List.set_cons_zero, List.set_cons_succ]
  refine take_ph 3 (.pointer (some ⟨c, 0, none⟩)) [] rfl (by kernel_rfl) (fun _ _ _ h => h) (Or.inl ⟨by rfl, ?_⟩) hSt (fun hSn => ?_)
  · intro V _; go_simp
  clear hSt; rename Ph _ _ _ _ _ _ _ => hSt
  simp only [Act.put, List.setIfInBounds_toArray, List.set_cons_zero, List.set_cons_succ]
  refine take_ph 4 (.slice (some ⟨gc, 0, none⟩) 8 cc) [11] rfl (by kernel_rfl) (fun _ _ _ h => h) (Or.inl ⟨by rfl, ?_⟩) hSt (fun hSn => ?_)
  · rintro V ⟨_, hB, hC⟩; have hh := hB (by decide); have e0 := F1.out V hh; clear hB hC; go_simp
  clear hSt; rename Ph _ _ _ _ _ _ _ => hSt
  simp only [Act.put, List.setIfInBounds_toArray, List.set_cons_zero, List.set_cons_succ]
  refine take_ph 5 (.int .i64 4) [] rfl (by kernel_rfl) (fun _ _ _ h => h) (Or.inl ⟨by rfl, ?_⟩) hSt (fun hSn => ?_)
  · intro V _; go_simp
  clear hSt; rename Ph _ _ _ _ _ _ _ => hSt
  simp only [Act.put, List.setIfInBounds_toArray, List.set_cons_zero, List.set_cons_succ]
  refine take_ph 6 (.pointer (some ⟨c, 0, none⟩)) [] rfl (by kernel_rfl) (fun _ _ _ h => h) (Or.inl ⟨by rfl, ?_⟩) hSt (fun hSn => ?_)
  · intro V _; go_simp
  clear hSt; rename Ph _ _ _ _ _ _ _ => hSt
  simp only [Act.put, List.setIfInBounds_toArray, List.set_cons_zero, List.set_cons_succ]
  refine take_ph 7 (.pointer (some ⟨c, 0, none⟩)) [] rfl (by kernel_rfl) (fun _ _ _ h => h) (Or.inl ⟨by rfl, ?_⟩) hSt (fun hSn => ?_)
  · intro V _; go_simp
  clear hSt; rename Ph _ _ _ _ _ _ _ => hSt
  simp only [Act.put, List.setIfInBounds_toArray, List.set_cons_zero, List.set_cons_succ]
  refine take_ph 8 (.pointer (some ⟨c, 0, none⟩)) [] rfl (by kernel_rfl) (fun _ _ _ h => h) (Or.inl ⟨by rfl, ?_⟩) hSt (fun hSn => ?_)
  · intro V _; go_simp
  clear hSt; rename Ph _ _ _ _ _ _ _ => hSt
  simp only [Act.put, List.setIfInBounds_toArray, List.set_cons_zero, List.set_cons_succ]
  refine take_ph 9 (.slice (some ⟨gc, 0, none⟩) 8 cc) [10, 11] rfl (by kernel_rfl) (fun _ _ _ h => h) (Or.inl ⟨by rfl, ?_⟩) hSt (fun hSn => ?_)
  · rintro V ⟨_, hB, hC⟩; have hh := hB (by decide); have e0 := F1.out V hh; clear hB hC; go_simp
  clear hSt; rename Ph _ _ _ _ _ _ _ => hSt
  simp only [Act.put, List.setIfInBounds_toArray, List.set_cons_zero, List.set_cons_succ]
  refine take_ph 10 (.int .i64 8) [] rfl (by kernel_rfl) (fun _ _ _ h => h) (Or.inl ⟨by rfl, ?_⟩) hSt (fun hSn => ?_)
  · intro V _; go_simp
  clear hSt; rename Ph _ _ _ _ _ _ _ => hSt
  simp only [Act.put, List.setIfInBounds_toArray, List.set_cons_zero, List.set_cons_succ]
  refine ready_call_ph 11 rfl (by kernel_rfl) (fun KK hK => ?_)
  go_simp
  go_wp2_with (first | (go_at_call 71; refine HIn.out.mono ?_; rintro e V7 ⟨a7, m7, c7, V8, rfl, hst8, HS8⟩))
  refine hK.out _ _ ?_ (fun hSn => ?_)
  · exact ⟨trivial, fun h => absurd (show true = false from h) (by decide), fun _ => trivial⟩
  clear hK KK hSt; rename Ph _ _ _ _ _ _ _ => hSt
  refine take_ph 12 (.pointer (some ⟨c, 0, none⟩)) [] rfl (by kernel_rfl) (fun _ _ _ h => h) (Or.inl ⟨by rfl, ?_⟩) hSt (fun hSn => ?_)
  · intro V _; go_simp
  clear hSt; rename Ph _ _ _ _ _ _ _ => hSt
  simp only [Act.put, List.setIfInBounds_toArray, List.set_cons_zero, List.set_cons_succ]
  refine take_ph 13 (.pointer (some ⟨c, 0, none⟩)) [] rfl (by kernel_rfl) (fun _ _ _ h => h) (Or.inl ⟨by rfl, ?_⟩) hSt (fun hSn => ?_)
  · intro V _; go_simp
  clear hSt; rename Ph _ _ _ _ _ _ _ => hSt
  simp only [Act.put, List.setIfInBounds_toArray, List.set_cons_zero, List.set_cons_succ]
  refine ready_store_ph 14 rfl (by kernel_rfl) rfl 100 _ _ rfl _ _ rfl rfl (hst8) (⟨trivial, fun h => absurd (show true = false from h) (by decide), fun _ => trivial⟩) (fun hSn => ?_)
  clear hSt; rename Ph _ _ _ _ _ _ _ => hSt
  simp only [Act.put]
  refine done_ph (by kernel_rfl) ?_ _
  clear hSt
  refine NoPanic.normal ?_
  have HZ : Hid (SplitTo w M q c (I1 ++ y :: I2) K1 K2 J1 C1 J2 C2 (.returned (.tuple #[])) V8) := by
    obtain ⟨hqc, hqr, hcr, hr0⟩ := HD.out
    refine ⟨rfl, _, r, HS8.out.1, HE1.out.trans HS8.out.2, hr0, ⟨_, (upd_other _ _ hqc).trans HM3.out.1, HN2.out.1, by simp⟩, ⟨_, upd_self _ _ _, by simp, HX.out.2.2⟩, ?_, fun k h1 h2 h3 => ?_⟩
    · obtain ⟨nr, hnr, e1, e2⟩ := HR1.out
      exact ⟨nr, (upd_other _ _ (Ne.symm hcr)).trans ((HM3.out.2 r (Ne.symm hqr)).trans hnr), e1, e2⟩
    · exact (upd_other _ _ h2).trans ((HM3.out.2 k h1).trans (HRe.out k h1 h2 h3))
  clear HS8 HS6 HE1 HX HR1 HRe HM3
  go_wp2_with fail
  go_end0
  exact HZ.out
end Go.Proofs.YtagamkahfiackaaGreatDoor

namespace Go.Proofs.YtagamkahfiackaaGreatDoor
open Go.RowKit Go.Sort

/-- Children in a row, each with what it holds; their nodes are apart. -/
def Kids (R : Nat → List It → (Nat → Prop) → Prop) : List Nat → List (List It) → (Nat → Prop) → Prop
  | [], [], F => ∀ x, ¬ F x
  | k :: ks, l :: ls, F => ∃ Fk Fr, R k l Fk ∧ Kids R ks ls Fr ∧ (∀ x, Fk x → ¬ Fr x) ∧ (∀ x, F x ↔ Fk x ∨ Fr x)
  | _, _, _ => False
/-- A node at height h, with m to mx items, that holds l; F: the nodes of it. -/
def Nod (M : Nat → Option Nd) : Nat → Nat → Nat → Nat → List It → (Nat → Prop) → Prop
  | 0, _, _, _, _, _ => False
  | h + 1, m, mx, q, l, F => ∃ n ls Fk, M q = some n ∧ m ≤ n.its.length ∧ n.its.length ≤ mx ∧ (h = 0 → n.ks = []) ∧ (h ≠ 0 → n.ks.length = n.its.length + 1) ∧ Kids (Nod M h 3 7) n.ks ls Fk ∧ l = weave n.its ls ∧ ¬ Fk q ∧ (∀ x, F x ↔ x = q ∨ Fk x)
theorem Kids.len {R : Nat → List It → (Nat → Prop) → Prop} : ∀ {ks : List Nat} {ls : List (List It)} {F : Nat → Prop}, Kids R ks ls F → ks.length = ls.length
  | [], [], _, _ => rfl
  | [], _ :: _, _, h => h.elim
  | _ :: _, [], _, h => h.elim
  | _ :: ks, _ :: ls, _, ⟨_, _, _, h, _⟩ => by rw [List.length_cons, List.length_cons, Kids.len h]
theorem Kids.turn {R R' : Nat → List It → (Nat → Prop) → Prop} : ∀ {ks : List Nat} {ls : List (List It)} {F : Nat → Prop}, Kids R ks ls F → (∀ k l F', (∀ x, F' x → F x) → R k l F' → R' k l F') → Kids R' ks ls F
  | [], [], _, h, _ => h
  | [], _ :: _, _, h, _ => h.elim
  | _ :: _, [], _, h, _ => h.elim
  | k :: _, l :: _, _, ⟨Fk, Fr, h1, h2, h3, h4⟩, hR => ⟨Fk, Fr, hR k l Fk (fun x hx => (h4 x).2 (.inl hx)) h1, Kids.turn h2 (fun k l F' hs => hR k l F' fun x hx => (h4 x).2 (.inr (hs x hx))), h3, h4⟩
theorem Kids.same {R : Nat → List It → (Nat → Prop) → Prop} : ∀ {ks : List Nat} {ls : List (List It)} {F F' : Nat → Prop}, Kids R ks ls F → (∀ x, F' x ↔ F x) → Kids R ks ls F'
  | [], [], _, _, h, hF => fun x hx => h x ((hF x).1 hx)
  | [], _ :: _, _, _, h, _ => h.elim
  | _ :: _, [], _, _, h, _ => h.elim
  | _ :: _, _ :: _, _, _, ⟨Fk, Fr, h1, h2, h3, h4⟩, hF => ⟨Fk, Fr, h1, h2, h3, fun x => (hF x).trans (h4 x)⟩
theorem Kids.nil {R : Nat → List It → (Nat → Prop) → Prop} {ls : List (List It)} {F : Nat → Prop} (h : Kids R [] ls F) : ls = [] ∧ ∀ x, ¬ F x := by
  cases ls with
  | nil => exact ⟨rfl, h⟩
  | cons l ls => exact h.elim
theorem kids_nil {R : Nat → List It → (Nat → Prop) → Prop} : Kids R [] [] (fun _ => False) := fun _ h => h
theorem Kids.append {R : Nat → List It → (Nat → Prop) → Prop} : ∀ {A B : List Nat} {la lb : List (List It)} {FA FB : Nat → Prop}, Kids R A la FA → Kids R B lb FB → (∀ x, FA x → ¬ FB x) → Kids R (A ++ B) (la ++ lb) (fun x => FA x ∨ FB x)
  | [], _, [], _, _, _, h1, h2, _ => h2.same fun x => ⟨fun h => h.elim (fun q => (h1 x q).elim) id, .inr⟩
  | [], _, _ :: _, _, _, _, h1, _, _ => h1.elim
  | _ :: _, _, [], _, _, _, h1, _, _ => h1.elim
  | k :: A, B, l :: la, lb, FA, FB, ⟨Fk, Fr, h1, h2, h3, h4⟩, hB, hd => by
    have ih := Kids.append h2 hB (fun x hx => hd x ((h4 x).2 (.inr hx)))
    refine ⟨Fk, _, h1, ih, fun x hx => ?_, fun x => ?_⟩
    · rintro (q | q)
      · exact h3 x hx q
      · exact hd x ((h4 x).2 (.inl hx)) q
    · show FA x ∨ FB x ↔ _
      rw [h4]; constructor
      · rintro ((q | q) | q)
        · exact .inl q
        · exact .inr (.inl q)
        · exact .inr (.inr q)
      · rintro (q | q | q)
        · exact .inl (.inl q)
        · exact .inl (.inr q)
        · exact .inr q
theorem Kids.split {R : Nat → List It → (Nat → Prop) → Prop} : ∀ {A B : List Nat} {ls : List (List It)} {F : Nat → Prop}, Kids R (A ++ B) ls F → ∃ la lb FA FB, ls = la ++ lb ∧ Kids R A la FA ∧ Kids R B lb FB ∧ (∀ x, FA x → ¬ FB x) ∧ (∀ x, F x ↔ FA x ∨ FB x)
  | [], B, ls, F, h => ⟨[], ls, fun _ => False, F, rfl, kids_nil, h, fun _ hx => hx.elim, fun x => ⟨.inr, fun q => q.elim False.elim id⟩⟩
  | _ :: _, _, [], _, h => h.elim
  | k :: A, B, l :: ls, F, ⟨Fk, Fr, h1, h2, h3, h4⟩ => by
    obtain ⟨la, lb, FA, FB, rfl, hA, hB, hd, hF⟩ := Kids.split h2
    refine ⟨l :: la, lb, fun x => Fk x ∨ FA x, FB, rfl, ⟨Fk, FA, h1, hA, fun x hx q => h3 x hx ((hF x).2 (.inl q)), fun _ => Iff.rfl⟩, hB, ?_, fun x => ?_⟩
    · rintro x (q | q) q'
      · exact h3 x q ((hF x).2 (.inr q'))
      · exact hd x q q'
    · rw [h4, hF]; constructor
      · rintro (q | q | q)
        · exact .inl (.inl q)
        · exact .inl (.inr q)
        · exact .inr q
      · rintro ((q | q) | q)
        · exact .inl q
        · exact .inr (.inl q)
        · exact .inr (.inr q)
/-- One child among them. -/
theorem Kids.at {R : Nat → List It → (Nat → Prop) → Prop} {A B : List Nat} {p : Nat} {ls : List (List It)} {F : Nat → Prop} (h : Kids R (A ++ p :: B) ls F) :
    ∃ la l lb FA Fp FB, ls = la ++ l :: lb ∧ Kids R A la FA ∧ R p l Fp ∧ Kids R B lb FB ∧ (∀ x, FA x → ¬ Fp x) ∧ (∀ x, FA x → ¬ FB x) ∧ (∀ x, Fp x → ¬ FB x) ∧ (∀ x, F x ↔ FA x ∨ Fp x ∨ FB x) := by
  obtain ⟨la, lb, FA, FB, rfl, hA, hB, hd, hF⟩ := h.split
  cases lb with
  | nil => exact hB.elim
  | cons l lb =>
    obtain ⟨Fp, Fr, h1, h2, h3, h4⟩ := hB
    exact ⟨la, l, lb, FA, Fp, Fr, rfl, hA, h1, h2, fun x hx q => hd x hx ((h4 x).2 (.inl q)), fun x hx q => hd x hx ((h4 x).2 (.inr q)), h3, fun x => by rw [hF, h4]⟩
theorem kids_one {R : Nat → List It → (Nat → Prop) → Prop} {p : Nat} {l : List It} {Fp : Nat → Prop} (h : R p l Fp) : Kids R [p] [l] Fp := ⟨Fp, fun _ => False, h, kids_nil, fun _ _ q => q, fun _ => ⟨.inl, fun q => q.elim id False.elim⟩⟩
theorem kids_at {R : Nat → List It → (Nat → Prop) → Prop} {A B : List Nat} {p : Nat} {la lb : List (List It)} {l : List It} {FA Fp FB : Nat → Prop} (hA : Kids R A la FA) (hp : R p l Fp) (hB : Kids R B lb FB) (h1 : ∀ x, FA x → ¬ Fp x) (h2 : ∀ x, FA x → ¬ FB x) (h3 : ∀ x, Fp x → ¬ FB x) : Kids R (A ++ p :: B) (la ++ l :: lb) (fun x => FA x ∨ Fp x ∨ FB x) :=
  hA.append (B := p :: B) (lb := l :: lb) (FB := fun x => Fp x ∨ FB x) ⟨Fp, FB, hp, hB, h3, fun _ => Iff.rfl⟩ (fun x hx q => q.elim (h1 x hx) (h2 x hx))
theorem kids_two {R : Nat → List It → (Nat → Prop) → Prop} {A B : List Nat} {p p' : Nat} {la lb : List (List It)} {l l' : List It} {FA Fp Fp' FB : Nat → Prop} (hA : Kids R A la FA) (hp : R p l Fp) (hp' : R p' l' Fp') (hB : Kids R B lb FB) (h1 : ∀ x, FA x → ¬ Fp x) (h1' : ∀ x, FA x → ¬ Fp' x) (h2 : ∀ x, FA x → ¬ FB x) (h3 : ∀ x, Fp x → ¬ FB x) (h3' : ∀ x, Fp' x → ¬ FB x) (h4 : ∀ x, Fp x → ¬ Fp' x) : Kids R (A ++ p :: p' :: B) (la ++ l :: l' :: lb) (fun x => FA x ∨ Fp x ∨ Fp' x ∨ FB x) :=
  hA.append (B := p :: p' :: B) (lb := l :: l' :: lb) (FB := fun x => Fp x ∨ Fp' x ∨ FB x) ⟨Fp, fun x => Fp' x ∨ FB x, hp, ⟨Fp', FB, hp', hB, h3', fun _ => Iff.rfl⟩, fun x hx q => q.elim (h4 x hx) (h3 x hx), fun _ => Iff.rfl⟩ (fun x hx q => q.elim (h1 x hx) fun q => q.elim (h1' x hx) (h2 x hx))
theorem Nod.frame {M M' : Nat → Option Nd} : ∀ {h m mx q : Nat} {l : List It} {F : Nat → Prop}, Nod M h m mx q l F → (∀ k, F k → M' k = M k) → Nod M' h m mx q l F
  | 0, _, _, _, _, _, hN, _ => hN.elim
  | _ + 1, _, _, q, _, _, ⟨n, ls, Fk, h1, h2, h3, h4, h5, h6, h7, h8, h9⟩, hM =>
    ⟨n, ls, Fk, (hM q ((h9 q).2 (.inl rfl))).trans h1, h2, h3, h4, h5, h6.turn fun _ _ _ hs hR => Nod.frame hR fun x hx => hM x ((h9 x).2 (.inr (hs x hx))), h7, h8, h9⟩
theorem Kids.frame {M M' : Nat → Option Nd} {h m mx : Nat} {ks : List Nat} {ls : List (List It)} {F : Nat → Prop} (hK : Kids (Nod M h m mx) ks ls F) (hM : ∀ k, F k → M' k = M k) : Kids (Nod M' h m mx) ks ls F :=
  hK.turn fun _ _ _ hs hR => hR.frame fun x hx => hM x (hs x hx)
theorem Nod.wide {M : Nat → Option Nd} {h m mx m' mx' q : Nat} {l : List It} {F : Nat → Prop} (hN : Nod M h m mx q l F) (hm : m' ≤ m) (hx : mx ≤ mx') : Nod M h m' mx' q l F := by
  cases h with
  | zero => exact hN.elim
  | succ h =>
    obtain ⟨n, ls, Fk, h1, h2, h3, h4⟩ := hN
    exact ⟨n, ls, Fk, h1, Nat.le_trans hm h2, Nat.le_trans h3 hx, h4⟩
theorem Nod.same {M : Nat → Option Nd} {h m mx q : Nat} {l l' : List It} {F F' : Nat → Prop} (hN : Nod M h m mx q l F) (hl : l' = l) (hF : ∀ x, F' x ↔ F x) : Nod M h m mx q l' F' := by
  cases h with
  | zero => exact hN.elim
  | succ h =>
    obtain ⟨n, ls, Fk, h1, h2, h3, h4, h5, h6, h7, h8, h9⟩ := hN
    exact ⟨n, ls, Fk, h1, h2, h3, h4, h5, h6, hl.trans h7, h8, fun x => (hF x).trans (h9 x)⟩
theorem Nod.self {M : Nat → Option Nd} {h m mx q : Nat} {l : List It} {F : Nat → Prop} (hN : Nod M h m mx q l F) : F q := by
  cases h with
  | zero => exact hN.elim
  | succ h =>
    obtain ⟨n, ls, Fk, _, _, _, _, _, _, _, _, h9⟩ := hN
    exact (h9 q).2 (.inl rfl)
theorem Nod.there {M : Nat → Option Nd} : ∀ {h m mx q : Nat} {l : List It} {F : Nat → Prop}, Nod M h m mx q l F → ∀ x, F x → ∃ n, M x = some n
  | 0, _, _, _, _, _, hN => hN.elim
  | h + 1, m, mx, q, l, F, ⟨n, ls, Fk, h1, h2, h3, h4, h5, h6, h7, h8, h9⟩ => by
    intro x hx
    rcases (h9 x).1 hx with rfl | hx
    · exact ⟨n, h1⟩
    · have key : ∀ {ks : List Nat} {ls : List (List It)} {F : Nat → Prop}, Kids (Nod M h 3 7) ks ls F → ∀ x, F x → ∃ n, M x = some n := by
        intro ks
        induction ks with
        | nil => intro ls F hK x hx; exact ((hK.nil).2 x hx).elim
        | cons k ks ih =>
          intro ls F hK x hx
          cases ls with
          | nil => exact hK.elim
          | cons l ls =>
            obtain ⟨Fk, Fr, g1, g2, g3, g4⟩ := hK
            rcases (g4 x).1 hx with q | q
            · exact Nod.there g1 x q
            · exact ih g2 x q
      exact key h6 x hx
theorem Kids.there {M : Nat → Option Nd} {h m mx : Nat} : ∀ {ks : List Nat} {ls : List (List It)} {F : Nat → Prop}, Kids (Nod M h m mx) ks ls F → ∀ x, F x → ∃ n, M x = some n
  | [], [], _, hK, x, hx => (hK x hx).elim
  | [], _ :: _, _, hK, _, _ => hK.elim
  | _ :: _, [], _, hK, _, _ => hK.elim
  | _ :: _, _ :: _, _, ⟨_, _, g1, g2, _, g4⟩, x, hx => by
    rcases (g4 x).1 hx with q | q
    · exact g1.there x q
    · exact Kids.there g2 x q
theorem Nod.lt {w : World} {M : Nat → Option Nd} (hs : Store w M) {h m mx q : Nat} {l : List It} {F : Nat → Prop} (hN : Nod M h m mx q l F) : ∀ x, F x → x < w.heap.size := fun x hx => by
  obtain ⟨n, hn⟩ := hN.there x hx
  exact hs.node_lt hn
theorem Kids.lt {w : World} {M : Nat → Option Nd} (hs : Store w M) {h m mx : Nat} {ks : List Nat} {ls : List (List It)} {F : Nat → Prop} (hK : Kids (Nod M h m mx) ks ls F) : ∀ x, F x → x < w.heap.size := fun x hx => by
  obtain ⟨n, hn⟩ := hK.there x hx
  exact hs.node_lt hn
/-- What a call leaves of the nodes of F: those of F'. -/
structure Kept (M M' : Nat → Option Nd) (F F' : Nat → Prop) (w w' : World) : Prop where
  st : Store w' M'
  ext : Ext (Own M) (Own M') w w'
  rest : ∀ k, k < w.heap.size → ¬ F k → M' k = M k
  new : ∀ k, F' k → F k ∨ w.heap.size ≤ k
end Go.Proofs.YtagamkahfiackaaGreatDoor
