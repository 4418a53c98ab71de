/- journal.Append. -/
import Derived.Test.YtjnhcanohefjiaaGreatDoorJOpen
namespace Go.Proofs.YtjnhcanohefjiaaGreatDoor
open Go.RowKit Go.Sort Go.Maps

/-- What Append answers, and what is left. -/
def appE (J : Jr) (xs : List Nat) : Nat := if J.dead ≠ 0 then J.dead else if refu xs.length ≠ 0 then refu xs.length else if 64 * J.a.s.toNat < J.row.length + (recB J.ep xs).length then 10 else 0
def appJ (J : Jr) (xs : List Nat) : Jr := if appE J xs = 0 then { J with pss := J.pss ++ [xs] } else J
/-- A journal in memory, its cells by themselves. -/
structure Jm (w : World) (base p aa bb q : Nat) (d : Dev) (K : Nat) (cs : Array Value) (rv ev : Value) (row ends : List Nat) : Prop where
  dev : DevIn w p aa bb d K
  blk : w.heap[q]? = some (.cells cs 80 (0, 0))
  row : Own w base rv row
  ends : OwnI w base ev ends
  lo : base ≤ p ∧ base ≤ aa ∧ base ≤ bb ∧ base ≤ q
theorem Jn.jm {w : World} {base p aa bb q : Nat} {d : Dev} {K : Nat} {J : Jr} {rv ev : Value} (h : Jn w base p aa bb q d K J rv ev) : Jm w base p aa bb q d K (jrC p J rv ev) rv ev J.row J.ends := ⟨h.dev, h.jr.blk, h.jr.row, h.jr.ends, h.lo⟩
theorem Jm.on {w w' : World} {base p aa bb q : Nat} {d : Dev} {K : Nat} {cs : Array Value} {rv ev : Value} {row ends : List Nat} (h : Jm w base p aa bb q d K cs rv ev row ends) (hb : Below w.heap.size w w') : Jm w' base p aa bb q d K cs rv ev row ends :=
  ⟨h.dev.on hb, (hb.block q (blk_lt h.blk)).trans h.blk, h.row.on hb, h.ends.on hb, h.lo⟩
theorem Jm.base {w : World} {base p aa bb q : Nat} {d : Dev} {K : Nat} {cs : Array Value} {rv ev : Value} {row ends : List Nat} (h : Jm w base p aa bb q d K cs rv ev row ends) : base ≤ w.heap.size := Nat.le_of_lt (Nat.lt_of_le_of_lt h.lo.2.2.2 (blk_lt h.blk))
theorem row_apart {w : World} {base k t s n : Nat} {v : Value} {xs : List Value} {c : Array Value} {u : TypeId} {z : Nat × Nat} (h : w.ownsRow base t s v n xs) (hk : w.heap[k]? = some (.cells c u z)) (hu : t ≠ u) : some k ≠ v.ownBlock := fun e => by
  obtain ⟨cur, hc⟩ := row_block h e.symm
  rw [hk] at hc
  simp only [Option.some.injEq, Obj.cells.injEq] at hc
  exact hu hc.2.1.symm
theorem row_dev {w : World} {p aa bb base t s n : Nat} {d : Dev} {K : Nat} {v : Value} {xs : List Value} (hd : DevIn w p aa bb d K) (h : w.ownsRow base t s v n xs) (ht : t ≠ 71) : some p ≠ v.ownBlock ∧ some aa ≠ v.ownBlock ∧ some bb ≠ v.ownBlock := by
  refine ⟨fun e => ?_, fun e => ?_, fun e => ?_⟩
  all_goals
    obtain ⟨cur, hc⟩ := row_block h e.symm
    have := hd.other hc ht
  · exact this.1 rfl
  · exact this.2.1 rfl
  · exact this.2.2 rfl
theorem Jm.growRow {w w' : World} {base p aa bb q : Nat} {d : Dev} {K : Nat} {cs : Array Value} {rv ev rv' : Value} {row ends row' : List Nat} (h : Jm w base p aa bb q d K cs rv ev row ends) (hr : Own w' base rv' row') (hg : w.grownBy w' rv.ownBlock) (hb : rv'.ownBlock = rv.ownBlock ∨ rv'.ownBlock = some w.heap.size) :
    Jm w' base p aa bb q d K cs rv' ev row' ends ∧ Ext (Mine p aa bb q rv ev) (Mine p aa bb q rv' ev) w w' := by
  obtain ⟨d1, d2, d3⟩ := h.dev.lts
  obtain ⟨r1, r2, r3⟩ := row_dev h.dev h.row (by decide)
  refine ⟨⟨h.dev.keep (hg.block p d1 r1) (hg.block aa d2 r2) (hg.block bb d3 r3), (hg.block q (blk_lt h.blk) (row_apart h.row h.blk (by decide))).trans h.blk, hr, row_keep h.ends fun g hgv => ?_, h.lo⟩, ⟨hg.os, hg.tape, hg.output, hg.size, fun k hk hn => hg.block k hk (fun e => hn (.inr (.inr (.inr (.inr (.inl e.symm)))))), ?_⟩⟩
  · obtain ⟨cur, hc⟩ := row_block h.ends hgv
    exact hg.block g (blk_lt hc) (row_apart h.row hc (by decide))
  · rintro k (e | e | e | e | e | e)
    · exact .inl (.inl e)
    · exact .inl (.inr (.inl e))
    · exact .inl (.inr (.inr (.inl e)))
    · exact .inl (.inr (.inr (.inr (.inl e))))
    · rcases hb with q | q
      · exact .inl (.inr (.inr (.inr (.inr (.inl (q ▸ e))))))
      · rw [q] at e; cases e; exact .inr (Nat.le_refl _)
    · exact .inl (.inr (.inr (.inr (.inr (.inr e)))))
theorem Jm.growEnds {w w' : World} {base p aa bb q : Nat} {d : Dev} {K : Nat} {cs : Array Value} {rv ev ev' : Value} {row ends ends' : List Nat} (h : Jm w base p aa bb q d K cs rv ev row ends) (hr : OwnI w' base ev' ends') (hg : w.grownBy w' ev.ownBlock) (hb : ev'.ownBlock = ev.ownBlock ∨ ev'.ownBlock = some w.heap.size) :
    Jm w' base p aa bb q d K cs rv ev' row ends' ∧ Ext (Mine p aa bb q rv ev) (Mine p aa bb q rv ev') w w' := by
  obtain ⟨d1, d2, d3⟩ := h.dev.lts
  obtain ⟨r1, r2, r3⟩ := row_dev h.dev h.ends (by decide)
  refine ⟨⟨h.dev.keep (hg.block p d1 r1) (hg.block aa d2 r2) (hg.block bb d3 r3), (hg.block q (blk_lt h.blk) (row_apart h.ends h.blk (by decide))).trans h.blk, row_keep h.row fun g hgv => ?_, hr, h.lo⟩, ⟨hg.os, hg.tape, hg.output, hg.size, fun k hk hn => hg.block k hk (fun e => hn (.inr (.inr (.inr (.inr (.inr e.symm)))))), ?_⟩⟩
  · obtain ⟨cur, hc⟩ := row_block h.row hgv
    exact hg.block g (blk_lt hc) (row_apart h.ends hc (by decide))
  · rintro k (e | e | e | e | e | e)
    · exact .inl (.inl e)
    · exact .inl (.inr (.inl e))
    · exact .inl (.inr (.inr (.inl e)))
    · exact .inl (.inr (.inr (.inr (.inl e))))
    · exact .inl (.inr (.inr (.inr (.inr (.inl e)))))
    · rcases hb with q | q
      · exact .inl (.inr (.inr (.inr (.inr (.inr (q ▸ e))))))
      · rw [q] at e; cases e; exact .inr (Nat.le_refl _)
theorem Jm.set {w : World} {base p aa bb q : Nat} {d : Dev} {K : Nat} {cs : Array Value} {rv ev : Value} {row ends : List Nat} (h : Jm w base p aa bb q d K cs rv ev row ends) (o : Nat) (v : Value) :
    Jm (w.setCell ⟨q, o, none⟩ v) base p aa bb q d K (cs.setIfInBounds o v) rv ev row ends ∧ Ext (Mine p aa bb q rv ev) (Mine p aa bb q rv ev) w (w.setCell ⟨q, o, none⟩ v) := by
  have hf : ∀ k, k ≠ q → (w.setCell ⟨q, o, none⟩ v).heap[k]? = w.heap[k]? := fun k hk => heap_far _ hk
  obtain ⟨a1, a2, a3⟩ := h.dev.other h.blk (by decide)
  refine ⟨⟨h.dev.keep (hf p (Ne.symm a1)) (hf aa (Ne.symm a2)) (hf bb (Ne.symm a3)), heap_set _ h.blk, row_keep h.row fun g hg => hf g fun e => ?_, row_keep h.ends fun g hg => hf g fun e => ?_, h.lo⟩, Ext.setq rfl rfl rfl (by simp [World.setCell]) hf (fun _ h => h) (fun _ h => h)⟩
  · exact row_apart h.row h.blk (by decide) (by rw [← e]; exact hg.symm)
  · exact row_apart h.ends h.blk (by decide) (by rw [← e]; exact hg.symm)
/-- A store of a slice into one cell. -/
theorem store_ints {w : World} {q o : Nat} {v : Value} {a : Option Addr} {n c : Nat} (hc : w.cell? ⟨q, o, none⟩ = some v) (hf : w.frozen? ⟨q, o, none⟩ = false) : (Instr.storeAt 41 (.pointer (some ⟨q, o, none⟩)) (.slice a n c)).run Tryz.prog w = .ok () (w.setCell ⟨q, o, none⟩ (.slice a n c)) := by
  have hs : (sizeOf 41).run Tryz.prog w = .ok 1 w := by kernel_rfl
  simp only [Instr.storeAt, Instr.sureAddr, Sem.run_bind, Sem.run_pure, Result.andThen]
  simp [storeVar, hs, Value.cells, Result.andThen, storeCells, hc, hf, go_sem]
theorem run_buildI (w : World) (n : Int) (a : Act) (o : Oper) (x : Operand) (h : o.op = .buildSlice 41 1 #[(0, x)]) (hx : a.eval x = .int .i64 n) : (execOp a.eval o).run Tryz.prog w = .ok (.value (.slice (some ⟨w.heap.size, 0, none⟩) 1 1)) (w.alloc (.cells #[.int .i64 n] 3)) := by
  unfold execOp
  simp only [h, List.map_toArray, List.map_cons, List.map_nil, hx]
  simp [Instr.buildSlice, go_sem]
section
variable {P : Program} {l : List Oper} {Q : Exit → Act → World → Prop} {md : Region.Mode} {S : World → Prop}
/-- One of those operations of a drawn region that may come up, whose outcome is known. -/
theorem cons_at (i : Nat) {oi : Oper} {post : List Oper} {rs : List Nat} {fuel : Nat} {listed : Array Bool} {a : Act} {w w' : World} {v : Value} (hi : l.drop i = oi :: post) (hw : Region.wanted oi (yielded l.toArray a.tmps) = true)
    (hrun : (execOp a.eval oi).run P w = .ok (.value v) w') (hS : S w')
    (h : wpAnyH P md l.toArray Q S fuel (listed.setIfInBounds i true) (a.put oi.dst v) w') (hr : AllReadyH P md l.toArray Q S fuel listed a w rs) : AllReadyH P md l.toArray Q S fuel listed a w (i :: rs) := by
  have h1 : l.toArray[i]? = some oi := by
    have h1 : (l.drop i)[0]? = some oi := by rw [hi]; rfl
    rw [List.getElem?_drop, Nat.add_zero] at h1
    simpa using h1
  refine AllReadyH.cons h1 (fun K hK => ?_) hr
  rw [if_pos hw]
  unfold Oper.wp
  rw [hrun]
  exact hK.out _ _ hS (fun _ => h)
/-- The same, of an operation that is walked by itself. -/
theorem cons_op (i : Nat) {oi : Oper} {post : List Oper} {rs : List Nat} {fuel : Nat} {listed : Array Bool} {a : Act} {w : World} (hi : l.drop i = oi :: post)
    (h : ∀ K' : Act → World → Prop, Shut (∀ a w, S w → (S w → wpAnyH P md l.toArray Q S fuel (listed.setIfInBounds i true) a w) → K' a w) → if Region.wanted oi (yielded l.toArray a.tmps) = true then Oper.wp P oi a w K' Q else K' (a.put oi.dst undef) w)
    (hr : AllReadyH P md l.toArray Q S fuel listed a w rs) : AllReadyH P md l.toArray Q S fuel listed a w (i :: rs) := by
  have h1 : l.toArray[i]? = some oi := by
    have h1 : (l.drop i)[0]? = some oi := by rw [hi]; rfl
    rw [List.getElem?_drop, Nat.add_zero] at h1
    simpa using h1
  exact AllReadyH.cons h1 h hr
end
/-- append of one number to a row of one's own, at a step of a region that draws its order; where the row lies then. -/
theorem step_append_intB (w : World) {ops : Array Oper} {o : Oper} {act : Act} {K : Act → World → Prop} {Q : Exit → Act → World → Prop} {E : Prop} (hgd : o.guard = none) (s x : Operand)
    (ho : o.op = .call { callee := .builtin .append, args := #[s, x], argTypes := #[41, 41] }) (base : Nat) (v : Value) (es : List Nat) (u : Nat) (hs : act.eval s = v) (hown : OwnI w base v es)
    (g : Nat) (hx : act.eval x = .slice (some ⟨g, 0, none⟩) 1 1) (hc : w.cell? ⟨g, 0, none⟩ = some (.int .i64 (u : Int))) (hb : es.length ≤ 10000000) (hbase : base ≤ w.heap.size)
    (hK : ∀ a' n' c' w', OwnI w' base (.slice a' n' c') (es ++ [u]) → w.grownBy w' v.ownBlock → ((Value.slice a' n' c').ownBlock = v.ownBlock ∨ (Value.slice a' n' c').ownBlock = some w.heap.size) → K (act.put o.dst (.slice a' n' c')) w') : if Region.wanted o (yielded ops act.tmps) = true then Oper.wp Tryz.prog o act w K Q else E := by
  have hw : Region.wanted o (yielded ops act.tmps) = true := by simp [Region.wanted, hgd]
  rw [if_pos hw]
  obtain ⟨i0, hi, hz0, hz1, hz2⟩ := info_parts infoI
  obtain ⟨v', w', hr, h2, h3, _, h5⟩ := run_append_own_at (P := Tryz.prog) w base 41 o.type 3 i0 (.int .i64 0) 1 8 Tryz.underlying41 hi hz0 hz1 hz2 rfl (by decide) v es.length (valsI es) hown ⟨g, 0, none⟩ 1 1 [.int .i64 (u : Int)] rfl (fun j u' hj => by
    match j, hj with
    | 0, hj => cases hj; rw [Addr.add_lit, Nat.add_zero]; exact hc) (fun y hy => by simp at hy; rw [hy]; rfl) (by unfold maxLen; omega) (by omega) hbase
  have h2' : OwnI w' base v' (es ++ [u]) := by
    unfold OwnI valsI
    rw [List.length_append, List.map_append]
    exact h2
  unfold Oper.wp execOp
  simp only [ho, resolve, invoke, builtin, Sem.run_bind, Sem.run_pure, Result.andThen_ok, List.map_toArray, List.map_cons, List.map_nil, hs, hx, hr]
  obtain ⟨a', c', hv, _⟩ := OwnI.shape h2'
  subst hv
  exact hK _ _ _ w' h2' h3 h5
/-- append of bytes to a row of one's own; where the row lies then. -/
theorem wpList_append_bytesB (w : World) {ops : Array Oper} {rest : List Oper} {o : Oper} {act : Act} {Q : Exit → Act → World → Prop} (hgd : o.guard = none) (s x : Operand)
    (ho : o.op = .call { callee := .builtin .append, args := #[s, x], argTypes := #[53, 53] }) (base : Nat) (v : Value) (es ys : List Nat) (hs : act.eval s = v) (hown : Own w base v es)
    (g m c' : Nat) (hx : act.eval x = .slice (some ⟨g, 0, none⟩) m c') (hm : ys.length = m) (hin : BytesIn w (some ⟨g, 0, none⟩) ys) (hbytes : es.length + ys.length ≤ 140737488355328) (hbase : base ≤ w.heap.size)
    (hK : ∀ a' n' c2 w', Own w' base (.slice a' n' c2) (es ++ ys) → w.grownBy w' v.ownBlock → ((Value.slice a' n' c2).ownBlock = v.ownBlock ∨ (Value.slice a' n' c2).ownBlock = some w.heap.size) → n' = es.length + m → wpList Tryz.prog ops Q rest (act.put o.dst (.slice a' n' c2)) w') : wpList Tryz.prog ops Q (o :: rest) act w :=
  wpList_plain hgd fun _ hK' => by
    obtain ⟨i0, hi, hz0, hz1, hz2⟩ := info_parts infoB
    subst hm
    obtain ⟨v', w', hr, h2, h3, _, h5⟩ := run_append_own_at (P := Tryz.prog) w base 53 o.type 5 i0 (.int .u8 0) 1 1 Tryz.underlying53 hi hz0 hz1 hz2 rfl (by decide) v es.length (vals es) hown ⟨g, 0, none⟩ ys.length c' (vals ys) (by rw [vals_len]; omega) hin.news (vals_one ys) (by unfold maxLen; omega) (by omega) hbase
    have h2' := own_join rfl rfl h2
    unfold Oper.wp execOp
    simp only [ho, resolve, invoke, builtin, Sem.run_bind, Sem.run_pure, Result.andThen_ok, List.map_toArray, List.map_cons, List.map_nil, hs, hx, hr]
    obtain ⟨a', c2, hv, _, _⟩ := h2'.bytes
    subst hv
    exact hK' _ _ (hK _ _ _ w' h2' h3 h5 (List.length_append ..))
end Go.Proofs.YtjnhcanohefjiaaGreatDoor
