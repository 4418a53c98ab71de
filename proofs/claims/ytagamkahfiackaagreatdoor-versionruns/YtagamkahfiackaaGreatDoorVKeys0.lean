/- What appendKeys leans on: rows of texts; a node from child to child; two operations that may come up. -/
import Derived.Test.YtagamkahfiackaaGreatDoorJ5
namespace Go.Proofs.YtagamkahfiackaaGreatDoor
open Go.RowKit Go.Sort

/-! ### Rows of texts -/
def cS (l : List ByteArray) : List Value := l.map .string
def RowS (w : World) (v : Value) (l : List ByteArray) : Prop := w.ownsRow 0 9 1 v l.length (cS l)
theorem cS_len (l : List ByteArray) : (cS l).length = l.length * 1 := by simp [cS]
theorem cS_one (l : List ByteArray) : ∀ u ∈ cS l, u.oneCell' = true := by
  intro u hu
  obtain ⟨x, _, rfl⟩ := List.mem_map.1 hu
  rfl
theorem cS_append (a b : List ByteArray) : cS (a ++ b) = cS a ++ cS b := by simp [cS]
theorem infoS : (Tryz.prog.info? 9).map (fun i => (i.zero, i.size, i.bytes)) = some (some (.string ⟨#[]⟩), 1, 16) := by kernel_rfl
theorem Store.rowS {w w' : World} {M : Nat → Option Nd} {v : Value} {l : List ByteArray} (h : Store w M) (hr : RowS w v l) (hg : w.grownBy w' v.ownBlock) : Store w' M := by
  refine h.keep fun k hk => hg.block k (h.lt hk) fun e => ?_
  obtain ⟨cur, hc⟩ := row_block hr e.symm
  obtain ⟨q, n, hq, rfl | e1 | e1⟩ := hk
  · exact kind_ne (h.blk _ _ hq) hc (by decide) rfl
  · obtain ⟨c2, h2⟩ := row_block (h.its q n hq) e1
    exact kind_ne h2 hc (by decide) rfl
  · obtain ⟨c2, h2⟩ := row_block (h.ks q n hq) e1
    exact kind_ne h2 hc (by decide) rfl
/-- What keys are laid behind leaves. -/
structure Laid (w : World) (kv : Value) (w' : World) (v' : Value) (l : List ByteArray) : Prop where
  row : RowS w' v' l
  grown : w.grownBy w' kv.ownBlock
  at' : v'.ownBlock = kv.ownBlock ∨ ∃ g, v'.ownBlock = some g ∧ w.heap.size ≤ g
theorem Laid.refl {w : World} {kv : Value} {l : List ByteArray} (h : RowS w kv l) : Laid w kv w kv l := ⟨h, grown_refl _ _, .inl rfl⟩
theorem Laid.shape {w w' : World} {kv v' : Value} {l : List ByteArray} (h : Laid w kv w' v' l) : ∃ a n c, v' = .slice a n c := by
  obtain ⟨a, c, e, _⟩ := row_shape h.row
  exact ⟨a, _, c, e⟩
theorem Laid.trans {w w1 w2 : World} {kv v1 v2 : Value} {l1 l2 : List ByteArray} (h : Laid w kv w1 v1 l1) (k : Laid w1 v1 w2 v2 l2) : Laid w kv w2 v2 l2 := by
  have hs := h.grown.size
  refine ⟨k.row, ⟨k.grown.os.trans h.grown.os, k.grown.tape.trans h.grown.tape, k.grown.output.trans h.grown.output, Nat.le_trans hs k.grown.size, fun i hi hn => ?_⟩, ?_⟩
  · refine (k.grown.block i (Nat.lt_of_lt_of_le hi hs) fun e => ?_).trans (h.grown.block i hi hn)
    rcases h.at' with e1 | ⟨g, e1, e2⟩
    · exact hn (e.trans e1)
    · rw [e1] at e; cases e; omega
  · rcases k.at' with e1 | ⟨g, e1, e2⟩
    · rcases h.at' with e2 | ⟨g, e2, e3⟩
      · exact .inl (e1.trans e2)
      · exact .inr ⟨g, e1.trans e2, e3⟩
    · exact .inr ⟨g, e1, Nat.le_trans hs e2⟩
theorem Laid.before {w0 w w' : World} {kv v' : Value} {l : List ByteArray} (h : Laid w kv w' v' l) (hb : Below w0.heap.size w0 w) : Laid w0 kv w' v' l :=
  ⟨h.row, grown_trans (grown_below _ hb) h.grown, h.at'.imp id fun ⟨g, e1, e2⟩ => ⟨g, e1, Nat.le_trans hb.size e2⟩⟩
theorem Laid.behind {w w' w2 : World} {kv v' : Value} {l : List ByteArray} (h : Laid w kv w' v' l) (hb : Below w'.heap.size w' w2) : Laid w kv w2 v' l :=
  ⟨row_on h.row hb, grown_trans h.grown ⟨hb.os, hb.tape, hb.output, hb.size, fun i hi _ => hb.block i hi⟩, h.at'⟩
/-- Another block stays beside the row. -/
theorem Laid.stays {w w' : World} {kv v' : Value} {l l0 : List ByteArray} {b : Nat} {c : Array Value} {t : TypeId} (h : Laid w kv w' v' l) (hr : RowS w kv l0) (hb : w.heap[b]? = some (.cells c t (0, 0))) (ht : t ≠ 9 ∨ kv.ownBlock ≠ some b) : w'.heap[b]? = some (.cells c t (0, 0)) := by
  refine (h.grown.block b (blk_lt hb) fun e => ?_).trans hb
  obtain ⟨cur, hc⟩ := row_block hr e.symm
  rcases ht with ht | ht
  · exact kind_ne hb hc ht rfl
  · exact ht e.symm
theorem appS_run {w : World} {v : Value} {l : List ByteArray} {x : ByteArray} (h : RowS w v l) (hl : l.length ≤ 100000) {b : Nat} (hb : w.heap[b]? = some (.cells #[.string x] 9 (0, 0))) (ty : TypeId) :
    ∃ v' w', (Builtin.append_ #[85, 85] ty #[v, .slice (some ⟨b, 0, none⟩) 1 1]).run Tryz.prog w = .ok v' w' ∧ Laid w v w' v' (l ++ [x]) := by
  obtain ⟨i0, hi0, hz0, hz1, hz2⟩ := info_parts infoS
  obtain ⟨v', w', hr, h2, h3, _, h5⟩ := run_append_own_at (P := Tryz.prog) w 0 85 ty 9 i0 _ 1 16 Tryz.underlying85 hi0 hz0 hz1 hz2 rfl (by decide) v l.length _ h ⟨b, 0, none⟩ 1 1 [.string x] rfl (fun j u hj => by
    match j, hj with
    | 0, hj => cases hj; rw [Addr.add_lit, Nat.add_zero]; exact cell_of hb rfl) (fun u hu => by rw [List.mem_singleton.1 hu]; rfl) (by unfold maxLen; omega) (by omega) (Nat.zero_le _)
  refine ⟨v', w', hr, ?_, h3, h5.imp id fun e => ⟨_, e, Nat.le_refl _⟩⟩
  unfold RowS
  rw [List.length_append, cS_append]
  exact h2
theorem run_buildS (w : World) (x : ByteArray) (a : Act) (o : Oper) (y : Operand) (h : o.op = .buildSlice 85 1 #[(0, y)]) (hy : a.eval y = .string x) : (execOp a.eval o).run Tryz.prog w = .ok (.value (.slice (some ⟨w.heap.size, 0, none⟩) 1 1)) (w.alloc (.cells #[.string x] 9)) := by
  unfold execOp
  simp only [h, List.map_toArray, List.map_cons, List.map_nil, hy]
  simp [Instr.buildSlice, go_sem]

/-! ### A node, from child to child -/
def kidL (ls : List (List It)) (i : Nat) : List It := ls.getD i []
def up : List It → List (List It) → List It
  | [], _ => []
  | x :: its, ls => kidL ls 0 ++ x :: up its ls.tail
theorem kidL_tail (ls : List (List It)) (i : Nat) : kidL ls.tail i = kidL ls (i + 1) := by
  unfold kidL
  cases ls <;> simp
theorem up_snoc : ∀ (A : List It) (x : It) (ls : List (List It)), up (A ++ [x]) ls = up A ls ++ (kidL ls A.length ++ [x])
  | [], x, ls => by simp [up]
  | y :: A, x, ls => by
    simp only [List.cons_append, up, up_snoc A x ls.tail, List.length_cons, kidL_tail, List.append_assoc]
theorem weave_up : ∀ (its : List It) (ls : List (List It)), (ls = [] ∨ ls.length = its.length + 1) → weave its ls = up its ls ++ kidL ls its.length
  | [], ls, h => by
    rcases h with rfl | h
    · rfl
    · match ls, h with
      | [l], _ => simp [weave, up, kidL]
  | x :: its, ls, h => by
    rcases h with rfl | h
    · have := weave_up its [] (.inl rfl)
      simp [weave, up, kidL] at this ⊢
      rw [weave_nil] at this ⊢
      exact this
    · match ls, h with
      | l :: ls, h =>
        have := weave_up its ls (.inr (by simpa using h))
        simp only [weave, up, kidL, List.tail_cons, List.getD_cons_zero, List.length_cons, List.getD_cons_succ, List.append_assoc, List.cons_append] at this ⊢
        rw [this]
theorem kids_of {M : Nat → Option Nd} {h m q : Nat} {l : List It} {F : Nat → Prop} (hN : Nod M (h + 1) m 7 q l F) (hs : Srt l) : ∃ n ls, M q = some n ∧ n.its.length ≤ 7 ∧ l = up n.its ls ++ kidL ls n.its.length ∧ ∀ i, i ≤ n.its.length → ∃ v, At M h v (kidL ls i) ∧ ∀ V, Store V M → Calls Tryz.prog 41 #[.pointer (some ⟨q, 0, none⟩), .int .i64 i] V fun e w' => e = .returned v ∧ w' = V := by
  obtain ⟨n, ls, Fk, h1, h2, h3, h4, h5, h6, rfl, h8, h9⟩ := hN
  cases h with
  | zero =>
    have hks := h4 rfl
    rw [hks] at h6
    obtain ⟨rfl, hno⟩ := h6.nil
    exact ⟨n, [], h1, h3, weave_up _ _ (.inl rfl), fun i hi => ⟨.pointer none, .inl ⟨rfl, rfl⟩, fun V hV => child_none hV h1 hks _⟩⟩
  | succ h =>
    have hks := h5 (by omega)
    have hll := h6.len
    refine ⟨n, ls, h1, h3, weave_up _ _ (.inr (by omega)), fun i hi => ?_⟩
    obtain ⟨K1, p, K2, hK, hK1, hK2⟩ : ∃ K1 p K2, n.ks = K1 ++ p :: K2 ∧ K1.length = i ∧ K2.length = n.its.length - i := by
      refine ⟨n.ks.take i, n.ks[i], n.ks.drop (i + 1), ?_, by rw [List.length_take]; omega, by rw [List.length_drop]; omega⟩
      rw [← List.drop_eq_getElem_cons, List.take_append_drop]
    rw [hK] at h6
    obtain ⟨L1, lp, L2, F1, Fp, F2, rfl, k1, kp, k2, _⟩ := h6.at
    have l1 := k1.len
    have l2 := k2.len
    have hkl : kidL (L1 ++ lp :: L2) i = lp := by
      unfold kidL
      rw [List.getD_eq_getElem?_getD, List.getElem?_append_right (by omega)]
      simp [show i - L1.length = 0 by omega]
    rw [hkl]
    have hIs : n.its = n.its.take i ++ n.its.drop i := (List.take_append_drop i _).symm
    rw [hIs, weave_at _ _ L1 lp L2 (by rw [List.length_take]; omega) (by rw [List.length_drop]; omega)] at hs
    have hsp := (List.pairwise_append.1 (List.pairwise_append.1 hs).2.1).1
    refine ⟨.pointer (some ⟨p, 0, none⟩), .inr ⟨h, p, Fp, by omega, rfl, kp.wide (by omega) (Nat.le_refl _), hsp⟩, fun V hV => ?_⟩
    have := child_at hV h1 hK
    rw [hK1] at this
    exact this
section
variable {P : Program} {l : List Oper} {Q : Exit → Act → World → Prop} {md : Region.Mode} {A B C : World → Prop} {e1 e2 : Nat}
/-- One of those operations that may come up: what is to be shown. -/
def OneS (P : Program) (md : Region.Mode) (l : List Oper) (Q : Exit → Act → World → Prop) (S : Array Bool → World → Prop) (fuel : Nat) (listed : Array Bool) (a : Act) (w : World) (i : Nat) : Prop :=
  wpOp P l.toArray Q i (fun a' w' => S (listed.setIfInBounds i true) w' ∧ wpAnyS P md l.toArray Q S fuel (listed.setIfInBounds i true) a' w') a w
theorem two_ph {S : Array Bool → World → Prop} {fuel : Nat} {listed : Array Bool} {a : Act} {w : World} (i j : Nat) (hr : Region.ready md l.toArray listed = [i, j]) (h1 : OneS P md l Q S fuel listed a w i) (h2 : OneS P md l Q S fuel listed a w j) : wpAnyS P md l.toArray Q S (fuel + 1) listed a w :=
  ⟨fun h0 => (by rw [hr] at h0; cases h0), fun k hk => by
    rw [hr] at hk
    rcases List.mem_cons.1 hk with rfl | hk
    · exact h1
    · rw [List.mem_singleton.1 hk]; exact h2⟩
theorem one_run {i : Nat} {oi : Oper} {post : List Oper} {fuel : Nat} {listed : Array Bool} {a : Act} {w w' : World} {v : Value} (hi : l.drop i = oi :: post) (hw : Region.wanted oi (yielded l.toArray a.tmps) = true)
    (hrun : (execOp a.eval oi).run P w = .ok (.value v) w') (hS : Ph A e1 B e2 C (listed.setIfInBounds i true) w')
    (h : Ph A e1 B e2 C (listed.setIfInBounds i true) w' → wpAnyS P md l.toArray Q (Ph A e1 B e2 C) fuel (listed.setIfInBounds i true) (a.put oi.dst v) w') : OneS P md l Q (Ph A e1 B e2 C) fuel listed a w i := by
  refine wpOp_step (at_list hi) fun K' hK => ?_
  rw [if_pos hw]
  unfold Oper.wp
  rw [hrun]
  exact hK _ _ ⟨hS, h hS⟩
theorem one_call {i : Nat} {oi : Oper} {post : List Oper} {fuel : Nat} {listed : Array Bool} {a : Act} {w : World} (hi : l.drop i = oi :: post)
    (h : ∀ K' : Act → World → Prop, Shut (∀ a w, Ph A e1 B e2 C (listed.setIfInBounds i true) w → (Ph A e1 B e2 C (listed.setIfInBounds i true) w → wpAnyS P md l.toArray Q (Ph A e1 B e2 C) fuel (listed.setIfInBounds i true) a w) → K' a w) → if Region.wanted oi (yielded l.toArray a.tmps) = true then Oper.wp P oi a w K' Q else K' (a.put oi.dst undef) w) :
    OneS P md l Q (Ph A e1 B e2 C) fuel listed a w i := wpOp_step (at_list hi) fun K' hK => h K' fun a w hS hW => hK a w ⟨hS, hW hS⟩
end
end Go.Proofs.YtagamkahfiackaaGreatDoor
