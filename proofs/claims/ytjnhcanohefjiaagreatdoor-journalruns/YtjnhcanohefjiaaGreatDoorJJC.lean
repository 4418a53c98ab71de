/- journal.Append; journal.Append, walked; journal.Flush and Rewind; A journal that is alive on a device at rest, plainly: what is laid behind, flushed, begun anew, opened again. -/
import Derived.Test.YtjnhcanohefjiaaGreatDoorJOpen
namespace Go.Proofs.YtjnhcanohefjiaaGreatDoor
open Go.RowKit Go.Sort Go.Maps

/-- What Append answers, and what is left. -/
def appE (J : Jr) (xs : List Nat) : Nat := if J.dead ≠ 0 then J.dead else if refu xs.length ≠ 0 then refu xs.length else if 64 * J.a.s.toNat < J.row.length + (recB J.ep xs).length then 10 else 0
def appJ (J : Jr) (xs : List Nat) : Jr := if appE J xs = 0 then { J with pss := J.pss ++ [xs] } else J
/-- A journal in memory, its cells by themselves. -/
structure Jm (w : World) (base p aa bb q : Nat) (d : Dev) (K : Nat) (cs : Array Value) (rv ev : Value) (row ends : List Nat) : Prop where
  dev : DevIn w p aa bb d K
  blk : w.heap[q]? = some (.cells cs 80 (0, 0))
  row : Own w base rv row
  ends : OwnI w base ev ends
  lo : base ≤ p ∧ base ≤ aa ∧ base ≤ bb ∧ base ≤ q
theorem Jn.jm {w : World} {base p aa bb q : Nat} {d : Dev} {K : Nat} {J : Jr} {rv ev : Value} (h : Jn w base p aa bb q d K J rv ev) : Jm w base p aa bb q d K (jrC p J rv ev) rv ev J.row J.ends := ⟨h.dev, h.jr.blk, h.jr.row, h.jr.ends, h.lo⟩
theorem Jm.on {w w' : World} {base p aa bb q : Nat} {d : Dev} {K : Nat} {cs : Array Value} {rv ev : Value} {row ends : List Nat} (h : Jm w base p aa bb q d K cs rv ev row ends) (hb : Below w.heap.size w w') : Jm w' base p aa bb q d K cs rv ev row ends :=
  ⟨h.dev.on hb, (hb.block q (blk_lt h.blk)).trans h.blk, h.row.on hb, h.ends.on hb, h.lo⟩
theorem Jm.base {w : World} {base p aa bb q : Nat} {d : Dev} {K : Nat} {cs : Array Value} {rv ev : Value} {row ends : List Nat} (h : Jm w base p aa bb q d K cs rv ev row ends) : base ≤ w.heap.size := Nat.le_of_lt (Nat.lt_of_le_of_lt h.lo.2.2.2 (blk_lt h.blk))
theorem row_apart {w : World} {base k t s n : Nat} {v : Value} {xs : List Value} {c : Array Value} {u : TypeId} {z : Nat × Nat} (h : w.ownsRow base t s v n xs) (hk : w.heap[k]? = some (.cells c u z)) (hu : t ≠ u) : some k ≠ v.ownBlock := fun e => by
  obtain ⟨cur, hc⟩ := row_block h e.symm
  rw [hk] at hc
  simp only [Option.some.injEq, Obj.cells.injEq] at hc
  exact hu hc.2.1.symm
theorem row_dev {w : World} {p aa bb base t s n : Nat} {d : Dev} {K : Nat} {v : Value} {xs : List Value} (hd : DevIn w p aa bb d K) (h : w.ownsRow base t s v n xs) (ht : t ≠ 71) : some p ≠ v.ownBlock ∧ some aa ≠ v.ownBlock ∧ some bb ≠ v.ownBlock := by
  refine ⟨fun e => ?_, fun e => ?_, fun e => ?_⟩
  all_goals
    obtain ⟨cur, hc⟩ := row_block h e.symm
    have := hd.other hc ht
  · exact this.1 rfl
  · exact this.2.1 rfl
  · exact this.2.2 rfl
theorem Jm.growRow {w w' : World} {base p aa bb q : Nat} {d : Dev} {K : Nat} {cs : Array Value} {rv ev rv' : Value} {row ends row' : List Nat} (h : Jm w base p aa bb q d K cs rv ev row ends) (hr : Own w' base rv' row') (hg : w.grownBy w' rv.ownBlock) (hb : rv'.ownBlock = rv.ownBlock ∨ rv'.ownBlock = some w.heap.size) :
    Jm w' base p aa bb q d K cs rv' ev row' ends ∧ Ext (Mine p aa bb q rv ev) (Mine p aa bb q rv' ev) w w' := by
  obtain ⟨d1, d2, d3⟩ := h.dev.lts
  obtain ⟨r1, r2, r3⟩ := row_dev h.dev h.row (by decide)
  refine ⟨⟨h.dev.keep (hg.block p d1 r1) (hg.block aa d2 r2) (hg.block bb d3 r3), (hg.block q (blk_lt h.blk) (row_apart h.row h.blk (by decide))).trans h.blk, hr, row_keep h.ends fun g hgv => ?_, h.lo⟩, ⟨hg.os, hg.tape, hg.output, hg.size, fun k hk hn => hg.block k hk (fun e => hn (.inr (.inr (.inr (.inr (.inl e.symm)))))), ?_⟩⟩
  · obtain ⟨cur, hc⟩ := row_block h.ends hgv
    exact hg.block g (blk_lt hc) (row_apart h.row hc (by decide))
  · rintro k (e | e | e | e | e | e)
    · exact .inl (.inl e)
    · exact .inl (.inr (.inl e))
    · exact .inl (.inr (.inr (.inl e)))
    · exact .inl (.inr (.inr (.inr (.inl e))))
    · rcases hb with q | q
      · exact .inl (.inr (.inr (.inr (.inr (.inl (q ▸ e))))))
      · rw [q] at e; cases e; exact .inr (Nat.le_refl _)
    · exact .inl (.inr (.inr (.inr (.inr (.inr e)))))
theorem Jm.growEnds {w w' : World} {base p aa bb q : Nat} {d : Dev} {K : Nat} {cs : Array Value} {rv ev ev' : Value} {row ends ends' : List Nat} (h : Jm w base p aa bb q d K cs rv ev row ends) (hr : OwnI w' base ev' ends') (hg : w.grownBy w' ev.ownBlock) (hb : ev'.ownBlock = ev.ownBlock ∨ ev'.ownBlock = some w.heap.size) :
    Jm w' base p aa bb q d K cs rv ev' row ends' ∧ Ext (Mine p aa bb q rv ev) (Mine p aa bb q rv ev') w w' := by
  obtain ⟨d1, d2, d3⟩ := h.dev.lts
  obtain ⟨r1, r2, r3⟩ := row_dev h.dev h.ends (by decide)
  refine ⟨⟨h.dev.keep (hg.block p d1 r1) (hg.block aa d2 r2) (hg.block bb d3 r3), (hg.block q (blk_lt h.blk) (row_apart h.ends h.blk (by decide))).trans h.blk, row_keep h.row fun g hgv => ?_, hr, h.lo⟩, ⟨hg.os, hg.tape, hg.output, hg.size, fun k hk hn => hg.block k hk (fun e => hn (.inr (.inr (.inr (.inr (.inr e.symm)))))), ?_⟩⟩
  · obtain ⟨cur, hc⟩ := row_block h.row hgv
    exact hg.block g (blk_lt hc) (row_apart h.ends hc (by decide))
  · rintro k (e | e | e | e | e | e)
    · exact .inl (.inl e)
    · exact .inl (.inr (.inl e))
    · exact .inl (.inr (.inr (.inl e)))
    · exact .inl (.inr (.inr (.inr (.inl e))))
    · exact .inl (.inr (.inr (.inr (.inr (.inl e)))))
    · rcases hb with q | q
      · exact .inl (.inr (.inr (.inr (.inr (.inr (q ▸ e))))))
      · rw [q] at e; cases e; exact .inr (Nat.le_refl _)
theorem Jm.set {w : World} {base p aa bb q : Nat} {d : Dev} {K : Nat} {cs : Array Value} {rv ev : Value} {row ends : List Nat} (h : Jm w base p aa bb q d K cs rv ev row ends) (o : Nat) (v : Value) :
    Jm (w.setCell ⟨q, o, none⟩ v) base p aa bb q d K (cs.setIfInBounds o v) rv ev row ends ∧ Ext (Mine p aa bb q rv ev) (Mine p aa bb q rv ev) w (w.setCell ⟨q, o, none⟩ v) := by
  have hf : ∀ k, k ≠ q → (w.setCell ⟨q, o, none⟩ v).heap[k]? = w.heap[k]? := fun k hk => heap_far _ hk
  obtain ⟨a1, a2, a3⟩ := h.dev.other h.blk (by decide)
  refine ⟨⟨h.dev.keep (hf p (Ne.symm a1)) (hf aa (Ne.symm a2)) (hf bb (Ne.symm a3)), heap_set _ h.blk, row_keep h.row fun g hg => hf g fun e => ?_, row_keep h.ends fun g hg => hf g fun e => ?_, h.lo⟩, Ext.setq rfl rfl rfl (by simp [World.setCell]) hf (fun _ h => h) (fun _ h => h)⟩
  · exact row_apart h.row h.blk (by decide) (by rw [← e]; exact hg.symm)
  · exact row_apart h.ends h.blk (by decide) (by rw [← e]; exact hg.symm)
/-- A store of a slice into one cell. -/
theorem store_ints {w : World} {q o : Nat} {v : Value} {a : Option Addr} {n c : Nat} (hc : w.cell? ⟨q, o, none⟩ = some v) (hf : w.frozen? ⟨q, o, none⟩ = false) : (Instr.storeAt 41 (.pointer (some ⟨q, o, none⟩)) (.slice a n c)).run Tryz.prog w = .ok () (w.setCell ⟨q, o, none⟩ (.slice a n c)) := by
  have hs : (sizeOf 41).run Tryz.prog w = .ok 1 w := by kernel_rfl
  simp only [Instr.storeAt, Instr.sureAddr, Sem.run_bind, Sem.run_pure, Result.andThen]
  simp [storeVar, hs, Value.cells, Result.andThen, storeCells, hc, hf, go_sem]
theorem run_buildI (w : World) (n : Int) (a : Act) (o : Oper) (x : Operand) (h : o.op = .buildSlice 41 1 #[(0, x)]) (hx : a.eval x = .int .i64 n) : (execOp a.eval o).run Tryz.prog w = .ok (.value (.slice (some ⟨w.heap.size, 0, none⟩) 1 1)) (w.alloc (.cells #[.int .i64 n] 3)) := by
  unfold execOp
  simp only [h, List.map_toArray, List.map_cons, List.map_nil, hx]
  simp [Instr.buildSlice, go_sem]
section
variable {P : Program} {l : List Oper} {Q : Exit → Act → World → Prop} {md : Region.Mode} {S : World → Prop}
/-- One of those operations of a drawn region that may come up, whose outcome is known. -/
theorem cons_at (i : Nat) {oi : Oper} {post : List Oper} {rs : List Nat} {fuel : Nat} {listed : Array Bool} {a : Act} {w w' : World} {v : Value} (hi : l.drop i = oi :: post) (hw : Region.wanted oi (yielded l.toArray a.tmps) = true)
    (hrun : (execOp a.eval oi).run P w = .ok (.value v) w') (hS : S w')
    (h : wpAnyH P md l.toArray Q S fuel (listed.setIfInBounds i true) (a.put oi.dst v) w') (hr : AllReadyH P md l.toArray Q S fuel listed a w rs) : AllReadyH P md l.toArray Q S fuel listed a w (i :: rs) := by
  have h1 : l.toArray[i]? = some oi := by
    have h1 : (l.drop i)[0]? = some oi := by rw [hi]; rfl
    rw [List.getElem?_drop, Nat.add_zero] at h1
    simpa using h1
  refine AllReadyH.cons h1 (fun K hK => ?_) hr
  rw [if_pos hw]
  unfold Oper.wp
  rw [hrun]
  exact hK.out _ _ hS (fun _ => h)
/-- The same, of an operation that is walked by itself. -/
theorem cons_op (i : Nat) {oi : Oper} {post : List Oper} {rs : List Nat} {fuel : Nat} {listed : Array Bool} {a : Act} {w : World} (hi : l.drop i = oi :: post)
    (h : ∀ K' : Act → World → Prop, Shut (∀ a w, S w → (S w → wpAnyH P md l.toArray Q S fuel (listed.setIfInBounds i true) a w) → K' a w) → if Region.wanted oi (yielded l.toArray a.tmps) = true then Oper.wp P oi a w K' Q else K' (a.put oi.dst undef) w)
    (hr : AllReadyH P md l.toArray Q S fuel listed a w rs) : AllReadyH P md l.toArray Q S fuel listed a w (i :: rs) := by
  have h1 : l.toArray[i]? = some oi := by
    have h1 : (l.drop i)[0]? = some oi := by rw [hi]; rfl
    rw [List.getElem?_drop, Nat.add_zero] at h1
    simpa using h1
  exact AllReadyH.cons h1 h hr
end
/-- append of one number to a row of one's own, at a step of a region that draws its order; where the row lies then. -/
theorem step_append_intB (w : World) {ops : Array Oper} {o : Oper} {act : Act} {K : Act → World → Prop} {Q : Exit → Act → World → Prop} {E : Prop} (hgd : o.guard = none) (s x : Operand)
    (ho : o.op = .call { callee := .builtin .append, args := #[s, x], argTypes := #[41, 41] }) (base : Nat) (v : Value) (es : List Nat) (u : Nat) (hs : act.eval s = v) (hown : OwnI w base v es)
    (g : Nat) (hx : act.eval x = .slice (some ⟨g, 0, none⟩) 1 1) (hc : w.cell? ⟨g, 0, none⟩ = some (.int .i64 (u : Int))) (hb : es.length ≤ 10000000) (hbase : base ≤ w.heap.size)
    (hK : ∀ a' n' c' w', OwnI w' base (.slice a' n' c') (es ++ [u]) → w.grownBy w' v.ownBlock → ((Value.slice a' n' c').ownBlock = v.ownBlock ∨ (Value.slice a' n' c').ownBlock = some w.heap.size) → K (act.put o.dst (.slice a' n' c')) w') : if Region.wanted o (yielded ops act.tmps) = true then Oper.wp Tryz.prog o act w K Q else E := by
  have hw : Region.wanted o (yielded ops act.tmps) = true := by simp [Region.wanted, hgd]
  rw [if_pos hw]
  obtain ⟨i0, hi, hz0, hz1, hz2⟩ := info_parts infoI
  obtain ⟨v', w', hr, h2, h3, _, h5⟩ := run_append_own_at (P := Tryz.prog) w base 41 o.type 3 i0 (.int .i64 0) 1 8 Tryz.underlying41 hi hz0 hz1 hz2 rfl (by decide) v es.length (valsI es) hown ⟨g, 0, none⟩ 1 1 [.int .i64 (u : Int)] rfl (fun j u' hj => by
    match j, hj with
    | 0, hj => cases hj; rw [Addr.add_lit, Nat.add_zero]; exact hc) (fun y hy => by simp at hy; rw [hy]; rfl) (by unfold maxLen; omega) (by omega) hbase
  have h2' : OwnI w' base v' (es ++ [u]) := by
    unfold OwnI valsI
    rw [List.length_append, List.map_append]
    exact h2
  unfold Oper.wp execOp
  simp only [ho, resolve, invoke, builtin, Sem.run_bind, Sem.run_pure, Result.andThen_ok, List.map_toArray, List.map_cons, List.map_nil, hs, hx, hr]
  obtain ⟨a', c', hv, _⟩ := OwnI.shape h2'
  subst hv
  exact hK _ _ _ w' h2' h3 h5
/-- append of bytes to a row of one's own; where the row lies then. -/
theorem wpList_append_bytesB (w : World) {ops : Array Oper} {rest : List Oper} {o : Oper} {act : Act} {Q : Exit → Act → World → Prop} (hgd : o.guard = none) (s x : Operand)
    (ho : o.op = .call { callee := .builtin .append, args := #[s, x], argTypes := #[53, 53] }) (base : Nat) (v : Value) (es ys : List Nat) (hs : act.eval s = v) (hown : Own w base v es)
    (g m c' : Nat) (hx : act.eval x = .slice (some ⟨g, 0, none⟩) m c') (hm : ys.length = m) (hin : BytesIn w (some ⟨g, 0, none⟩) ys) (hbytes : es.length + ys.length ≤ 140737488355328) (hbase : base ≤ w.heap.size)
    (hK : ∀ a' n' c2 w', Own w' base (.slice a' n' c2) (es ++ ys) → w.grownBy w' v.ownBlock → ((Value.slice a' n' c2).ownBlock = v.ownBlock ∨ (Value.slice a' n' c2).ownBlock = some w.heap.size) → n' = es.length + m → wpList Tryz.prog ops Q rest (act.put o.dst (.slice a' n' c2)) w') : wpList Tryz.prog ops Q (o :: rest) act w :=
  wpList_plain hgd fun _ hK' => by
    obtain ⟨i0, hi, hz0, hz1, hz2⟩ := info_parts infoB
    subst hm
    obtain ⟨v', w', hr, h2, h3, _, h5⟩ := run_append_own_at (P := Tryz.prog) w base 53 o.type 5 i0 (.int .u8 0) 1 1 Tryz.underlying53 hi hz0 hz1 hz2 rfl (by decide) v es.length (vals es) hown ⟨g, 0, none⟩ ys.length c' (vals ys) (by rw [vals_len]; omega) hin.news (vals_one ys) (by unfold maxLen; omega) (by omega) hbase
    have h2' := own_join rfl rfl h2
    unfold Oper.wp execOp
    simp only [ho, resolve, invoke, builtin, Sem.run_bind, Sem.run_pure, Result.andThen_ok, List.map_toArray, List.map_cons, List.map_nil, hs, hx, hr]
    obtain ⟨a', c2, hv, _, _⟩ := h2'.bytes
    subst hv
    exact hK' _ _ (hK _ _ _ w' h2' h3 h5 (List.length_append ..))
end Go.Proofs.YtjnhcanohefjiaaGreatDoor

namespace Go.Proofs.YtjnhcanohefjiaaGreatDoor
open Go.RowKit Go.Sort Go.Maps

/-- The journal with one record more. -/
theorem app_row (J : Jr) (xs : List Nat) : ({ J with pss := J.pss ++ [xs] } : Jr).row = J.row ++ recB J.ep xs := by
  show allB J.ep (J.pss ++ [xs]) = _
  rw [allB_append, allB_one]; rfl
theorem app_ends (J : Jr) (xs : List Nat) : ({ J with pss := J.pss ++ [xs] } : Jr).ends = J.ends ++ [(J.row ++ recB J.ep xs).length] := by
  show endsL J.ep (J.pss ++ [xs]) = _
  rw [endsL_snoc, allB_append, allB_one]; rfl
theorem app_ok {J : Jr} {xs : List Nat} (h : okJ J) (hx : ∀ x ∈ xs, x < 256) (hr : refu xs.length = 0) (hl : ¬ 64 * J.a.s.toNat < J.row.length + (recB J.ep xs).length) : okJ { J with pss := J.pss ++ [xs] } := by
  have hb := refu_zero hr
  refine ⟨fun p hp => ?_, h.ep, ?_, ?_, h.g, h.f, h.s⟩
  · rcases List.mem_append.1 hp with hp | hp
    · exact h.pays p hp
    · simp only [List.mem_singleton] at hp
      subst hp
      exact ⟨fun e => by rw [e] at hb; simp at hb, by omega, hx⟩
  · show J.sf ≤ (J.pss ++ [xs]).length
    rw [List.length_append]
    have := h.sf
    omega
  · rw [app_row, List.length_append]
    show _ ≤ 64 * J.a.s.toNat
    omega
theorem JnTo.same {w w' : World} {base p aa bb q : Nat} {d : Dev} {K : Nat} {J : Jr} {rv ev : Value} (h : Jn w base p aa bb q d K J rv ev) (hb : Below w.heap.size w w') : JnTo w base p aa bb q rv ev d K J w' := ⟨rv, ev, h.on hb, Ext.of_below _ hb⟩
set_option maxHeartbeats 1000000 in
theorem jappend_dead {w : World} {base p aa bb q : Nat} {d : Dev} {K : Nat} {J : Jr} {rv ev : Value} (h : Jn w base p aa bb q d K J rv ev) (a : Option Addr) (xs : List Nat) (l c : Nat) (hd : J.dead ≠ 0) :
    Calls Tryz.prog 18 #[.pointer (some ⟨q, 0, none⟩), .slice a l c] w fun e w' => e = .returned (errV (appE J xs)) ∧ JnTo w base p aa bb q rv ev d K (appJ J xs) w' := by
  have e1 : appE J xs = J.dead := if_pos hd
  have e2 : appJ J xs = J := if_neg (by rw [e1]; exact hd)
  have HE := Lib.hid (JnTo.same h (Below.refl _ _))
  have HRf := Lib.hid (jrefuse_ h.jr)
  rw [e1, e2]
  rw [errV_not hd] at HRf ⊢
  clear h e1 e2
  go_enter Tryz.func18, Tryz.ntmps18
  go_wp2_with (first | (go_at_call 41; refine HRf.out.mono ?_; rintro e w1 ⟨rfl, rfl⟩) | fail)
  go_ret
  exact ⟨rfl, HE.out⟩
set_option maxHeartbeats 1000000 in
theorem jappend_bad {w : World} {base p aa bb q : Nat} {d : Dev} {K : Nat} {J : Jr} {rv ev : Value} (h : Jn w base p aa bb q d K J rv ev) (a : Option Addr) (xs : List Nat) (l c : Nat) (hl : xs.length = l) (hby : BytesIn w a xs) (hx : ∀ x ∈ xs, x < 256) (hc : a = none → c = 0) (hlim : l ≤ 9223372036854775807) (hd : J.dead = 0) (hr : refu xs.length ≠ 0) :
    Calls Tryz.prog 18 #[.pointer (some ⟨q, 0, none⟩), .slice a l c] w fun e w' => e = .returned (errV (appE J xs)) ∧ JnTo w base p aa bb q rv ev d K (appJ J xs) w' := by
  have e1 : appE J xs = refu xs.length := by unfold appE; rw [if_neg (by simpa using hd), if_pos hr]
  have e2 : appJ J xs = J := if_neg (by rw [e1]; exact hr)
  have HE : Hid (∀ w', Below w.heap.size w w' → JnTo w base p aa bb q rv ev d K J w') := fun w' hb => JnTo.same h hb
  have HRf := Lib.hid (jrefuse_ h.jr)
  have e0 : errV J.dead = .nilIface := by rw [hd]; rfl
  rw [e0] at HRf
  subst hl
  have HFr := Lib.hid (frame_ J.ep a xs c w hby hx hc h.jr.ok.ep hlim)
  obtain ⟨_, _, _, _, c4, _⟩ := h.jr.cells
  have ef : frm J.ep xs = ([], refu xs.length) := if_neg hr
  rw [ef] at HFr
  unfold Opened at HFr
  simp only [errV_not hr] at HFr
  rw [e1, e2, errV_not hr]
  generalize refu xs.length = k at *
  generalize J.ep = ep at *
  generalize xs.length = l at *
  clear h e1 e2 hby hx hc hd ef
  go_enter Tryz.func18, Tryz.ntmps18
  go_wp2_with (first
    | (go_at_call 41; refine HRf.out.mono ?_; rintro e w1 ⟨rfl, rfl⟩)
    | (go_at_call 42; refine HFr.out.mono ?_; rintro e w2 ⟨fa, fc, rfl, _, _, _, hb2⟩; have HB2 := Lib.hid hb2; clear hb2)
    | fail)
  go_ret
  exact ⟨rfl, HE.out _ HB2.out⟩
set_option maxRecDepth 100000 in
set_option maxHeartbeats 2000000 in
theorem jappend_full {w : World} {base p aa bb q : Nat} {d : Dev} {K : Nat} {J : Jr} {rv ev : Value} (h : Jn w base p aa bb q d K J rv ev) (a : Option Addr) (xs : List Nat) (l c : Nat) (hl : xs.length = l) (hby : BytesIn w a xs) (hx : ∀ x ∈ xs, x < 256) (hc : a = none → c = 0) (hlim : l ≤ 9223372036854775807) (hd : J.dead = 0) (hr : refu xs.length = 0) (hfull : 64 * J.a.s.toNat < J.row.length + (recB J.ep xs).length) :
    Calls Tryz.prog 18 #[.pointer (some ⟨q, 0, none⟩), .slice a l c] w fun e w' => e = .returned (errV (appE J xs)) ∧ JnTo w base p aa bb q rv ev d K (appJ J xs) w' := by
  have e1 : appE J xs = 10 := by unfold appE; rw [if_neg (by simpa using hd), if_neg (by simpa using hr), if_pos hfull]
  have e2 : appJ J xs = J := if_neg (by rw [e1]; decide)
  have HE : Hid (∀ w', Below w.heap.size w w' → JnTo w base p aa bb q rv ev d K J w') := fun w' hb => JnTo.same h hb
  have HRf := Lib.hid (jrefuse_ h.jr)
  have HRm := Lib.hid (fun V (hV : Below w.heap.size w V) => jroom_ (h.jr.on hV))
  have e0 : errV J.dead = .nilIface := by rw [hd]; rfl
  rw [e0] at HRf
  subst hl
  have HFr := Lib.hid (frame_ J.ep a xs c w hby hx hc h.jr.ok.ep hlim)
  obtain ⟨_, _, _, _, c4, _⟩ := h.jr.cells
  have ef : frm J.ep xs = (recB J.ep xs, 0) := if_pos hr
  rw [ef] at HFr
  unfold Opened at HFr
  have e00 : errV 0 = .nilIface := rfl
  simp only [e00] at HFr
  have e10 : errV 10 = .iface 68 (.int .i64 10) := rfl
  have hs := h.jr.ok.s
  have hgt : ((recB J.ep xs).length : Int) > 64 * J.a.s - (J.row.length : Nat) := by omega
  rw [e1, e2, e10]
  generalize (recB J.ep xs).length = bl at *
  generalize recB J.ep xs = bx at *
  generalize J.ep = ep at *
  generalize xs.length = l at *
  generalize 64 * J.a.s - (J.row.length : Nat) = rm at *
  clear h e1 e2 hby hx hc hd ef hfull
  go_enter Tryz.func18, Tryz.ntmps18
  go_wp2_with (first
    | (go_at_call 41; refine HRf.out.mono ?_; rintro e w1 ⟨rfl, rfl⟩)
    | (go_at_call 42; refine HFr.out.mono ?_; rintro e w2 ⟨fa, fc, rfl, _, _, _, hb2⟩; have HB2 := Lib.hid hb2; clear hb2)
    | (go_at_call 14; refine (HRm.out _ HB2.out).mono ?_; rintro e w3 ⟨rfl, hb3⟩; have HB3 := Lib.hid (below_step HB2.out hb3); clear hb3)
    | fail)
  go_ret
  exact ⟨rfl, HE.out _ HB3.out⟩
set_option maxRecDepth 100000 in
set_option maxHeartbeats 4000000 in
theorem jappend_ok {w : World} {base p aa bb q : Nat} {d : Dev} {K : Nat} {J : Jr} {rv ev : Value} (h : Jn w base p aa bb q d K J rv ev) (a : Option Addr) (xs : List Nat) (l c : Nat) (hl : xs.length = l) (hby : BytesIn w a xs) (hx : ∀ x ∈ xs, x < 256) (hc : a = none → c = 0) (hlim : l ≤ 9223372036854775807) (hd : J.dead = 0) (hr : refu xs.length = 0) (hfull : ¬ 64 * J.a.s.toNat < J.row.length + (recB J.ep xs).length) :
    Calls Tryz.prog 18 #[.pointer (some ⟨q, 0, none⟩), .slice a l c] w fun e w' => e = .returned (errV (appE J xs)) ∧ JnTo w base p aa bb q rv ev d K (appJ J xs) w' := by
  have e1 : appE J xs = 0 := by unfold appE; rw [if_neg (by simpa using hd), if_neg (by simpa using hr), if_neg hfull]
  have e2 : appJ J xs = { J with pss := J.pss ++ [xs] } := if_pos e1
  have hok := app_ok h.jr.ok hx hr hfull
  have HRf := Lib.hid (jrefuse_ h.jr)
  have HRm := Lib.hid (fun V (hV : Below w.heap.size w V) => jroom_ (h.jr.on hV))
  have e0 : errV J.dead = .nilIface := by rw [hd]; rfl
  rw [e0] at HRf
  subst hl
  have HFr := Lib.hid (frame_ J.ep a xs c w hby hx hc h.jr.ok.ep hlim)
  obtain ⟨_, _, _, _, c4, _⟩ := h.jr.cells
  have ef : frm J.ep xs = (recB J.ep xs, 0) := if_pos hr
  rw [ef] at HFr
  unfold Opened at HFr
  have e00 : errV 0 = .nilIface := rfl
  simp only [e00] at HFr
  have hs := h.jr.ok.s
  have hle : ¬ ((recB J.ep xs).length : Int) > 64 * J.a.s - (J.row.length : Nat) := by omega
  have hrl := h.jr.ok.row_le
  have hcn := h.jr.ok.count
  have hbl : (recB J.ep xs).length ≤ 1048576 := by omega
  have hbp : 0 < (recB J.ep xs).length := by rw [recB_length]; omega
  have hel : Hid (J.ends.length ≤ 10000000) := Lib.hid (by rw [ends_len]; omega)
  obtain ⟨ra, rc, hrv, _, _⟩ := h.jr.row.bytes
  obtain ⟨ea, ec, hev, _⟩ := h.jr.ends.shape
  have HJm := Lib.hid h.jm
  have HEnd : Hid (∀ (a3 a6 : Option Addr) (n3 c3 l6 c6 : Nat) (w7 : World), n3 = J.row.length + (recB J.ep xs).length → Jm w7 base p aa bb q d K #[.pointer (some ⟨p, 0, none⟩), .int .i64 J.a.g, .int .i64 J.a.f, .int .i64 J.a.s, .int .u64 J.ep, .slice a3 n3 c3, .slice a6 l6 c6, .int .i64 J.sf, .nilIface] (.slice a3 n3 c3) (.slice a6 l6 c6) (J.row ++ recB J.ep xs) (J.ends ++ [n3]) → Ext (Mine p aa bb q rv ev) (Mine p aa bb q (.slice a3 n3 c3) (.slice a6 l6 c6)) w w7 → JnTo w base p aa bb q rv ev d K { J with pss := J.pss ++ [xs] } w7) := fun a3 a6 n3 c3 l6 c6 w7 hn hm hx => by
    refine ⟨_, _, ⟨hm.dev, ⟨?_, ?_, ?_, hok⟩, hm.lo⟩, hx⟩
    · rw [hm.blk]
      unfold jrC
      simp only [e0]
    · rw [app_row]; exact hm.row
    · rw [app_ends, List.length_append, ← hn]; exact hm.ends
  rw [e1, e2, e00]
  subst hrv hev
  unfold jrC at HJm
  simp only [e0] at HJm
  generalize ({ J with pss := J.pss ++ [xs] } : Jr) = J2 at *
  generalize hrb : recB J.ep xs = bx at *
  generalize J.ep = ep at *
  generalize J.a.g = ag at *
  generalize J.a.f = af at *
  generalize J.a.s = as' at *
  generalize J.sf = sf at *
  generalize J.row = row at *
  generalize J.ends = ends at *
  generalize hbxl : bx.length = bl at *
  generalize xs.length = l at *
  generalize hrm : 64 * as' - (row.length : Nat) = rm at *
  have HBX := Lib.hid hbxl
  clear h e1 e2 hby hx hc hd ef hfull hok hrb hbxl hrm hs
  generalize hrlen : row.length = rl at *
  have HRL := Lib.hid hrlen
  clear hrlen
  go_enter Tryz.func18, Tryz.ntmps18
  go_wp2_with (first
    | (go_at_call 41; refine HRf.out.mono ?_; rintro e w1 ⟨rfl, rfl⟩)
    | (go_at_call 42; refine HFr.out.mono ?_; rintro e w2 ⟨fa, fc, rfl, hfo, hfb, _, hb2⟩
       have HFB := Lib.hid hfb
       obtain ⟨fg, rfl⟩ := own_at hfo (by rw [HBX.out]; exact hbp)
       have HB2 := Lib.hid hb2
       clear hb2 hfo hfb)
    | (go_at_call 14; refine (HRm.out _ HB2.out).mono ?_; rintro e w3 ⟨rfl, hb3⟩
       have HB3 := Lib.hid (below_step HB2.out hb3)
       have HFB3 := Lib.hid (HFB.out.on hb3)
       have HJ3 := Lib.hid (HJm.out.on HB3.out)
       have q5 : w3.cell? ⟨q, 5, none⟩ = some (.slice ra rl rc) := cell_of HJ3.out.blk rfl
       clear hb3 HFB HB2)
    | (at_builtin; refine wpList_append_bytesB _ rfl _ _ rfl base _ row bx rfl HJ3.out.row fg bl fc rfl HBX.out HFB3.out (by rw [HBX.out, HRL.out]; omega) HJ3.out.base ?_
       intro a4 n4 c4' w4 hown4 hgrow4 hblk4 hn4
       rw [HRL.out] at hn4
       obtain ⟨hm4, hx4⟩ := HJ3.out.growRow hown4 hgrow4 hblk4
       have HM4 := Lib.hid hm4
       have HX4 := Lib.hid ((Ext.of_below (Mine p aa bb q (.slice ra rl rc) (.slice ea ends.length ec)) HB3.out).trans hx4)
       have HN4 := Lib.hid hn4
       have q5' : w4.cell? ⟨q, 5, none⟩ = some (.slice ra rl rc) := cell_of hm4.blk rfl
       have f5' : w4.frozen? ⟨q, 5, none⟩ = false := frozen_of hm4.blk
       clear hown4 hgrow4 hblk4 hn4 hm4 hx4 q5 HFB3 HB3 HJ3)
    | fail)
  obtain ⟨hm5, hx5⟩ := HM4.out.set 5 (.slice a4 n4 c4')
  have HM3 : Hid (Jm (w4.setCell ⟨q, 5, none⟩ (.slice a4 n4 c4')) base p aa bb q d K #[.pointer (some ⟨p, 0, none⟩), .int .i64 ag, .int .i64 af, .int .i64 as', .int .u64 ep, .slice a4 n4 c4', .slice ea ends.length ec, .int .i64 sf, .nilIface] (.slice a4 n4 c4') (.slice ea ends.length ec) (row ++ bx) ends) := hm5
  have HFin : Hid (∀ (a6 : Option Addr) (l6 c6 : Nat) (w7 : World), Jm w7 base p aa bb q d K #[.pointer (some ⟨p, 0, none⟩), .int .i64 ag, .int .i64 af, .int .i64 as', .int .u64 ep, .slice a4 n4 c4', .slice a6 l6 c6, .int .i64 sf, .nilIface] (.slice a4 n4 c4') (.slice a6 l6 c6) (row ++ bx) (ends ++ [n4]) → Ext (Mine p aa bb q (.slice a4 n4 c4') (.slice ea ends.length ec)) (Mine p aa bb q (.slice a4 n4 c4') (.slice a6 l6 c6)) (w4.setCell ⟨q, 5, none⟩ (.slice a4 n4 c4')) w7 → JnTo w1 base p aa bb q (.slice ra rl rc) (.slice ea ends.length ec) d K J2 w7) := fun a6 l6 c6 w7 hm hx => HEnd.out a4 a6 n4 c4' l6 c6 w7 HN4.out hm ((HX4.out.trans hx5).trans hx)
  clear hm5 hx5 HM4 HX4 q5' f5' HEnd HRf HRm HFr HJm
  generalize w4.setCell ⟨q, 5, none⟩ (.slice a4 n4 c4') = W3 at *
  have D5 : Hid (W3.drew.cell? ⟨q, 5, none⟩ = some (.slice a4 n4 c4')) := cell_of (w := W3) HM3.out.blk rfl
  have D6 : Hid (W3.drew.cell? ⟨q, 6, none⟩ = some (.slice ea ends.length ec)) := cell_of (w := W3) HM3.out.blk rfl
  have hV : Hid (Below W3.heap.size W3 (W3.drew.alloc (.cells #[.int .i64 (n4 : Int)] 3))) := below_step (below_drew W3) (below_alloc _ _)
  have D6b : Hid ((W3.alloc (.cells #[.int .i64 (n4 : Int)] 3)).cell? ⟨q, 6, none⟩ = some (.slice ea ends.length ec)) := cell_of (HM3.out.on (below_alloc _ _)).blk rfl
  refine wp_region_noPanic ?_
  refine wp_region_held_drew (S := fun _ => True) (by kernel_rfl) trivial (fun hHeld => ?_)
  refine take_at 0 (.pointer (some ⟨q, 0, none⟩)) rfl (by kernel_rfl) (by kernel_rfl) (by kernel_rfl) (fun _ _ _ h => h) (Or.inl ⟨by rfl, ?_⟩) trivial ?_
  · intro V hSV; go_simp
  simp only [Act.put, List.setIfInBounds_toArray, List.set_cons_zero, List.set_cons_succ]
  refine take_at 1 (.pointer (some ⟨q, 0, none⟩)) rfl (by kernel_rfl) (by kernel_rfl) (by kernel_rfl) (fun _ _ _ h => h) (Or.inl ⟨by rfl, ?_⟩) trivial ?_
  · intro V hSV; go_simp
  simp only [Act.put, List.setIfInBounds_toArray, List.set_cons_zero, List.set_cons_succ]
  refine take_at 2 (.pointer (some ⟨q, 0, none⟩)) rfl (by kernel_rfl) (by kernel_rfl) (by kernel_rfl) (fun _ _ _ h => h) (Or.inl ⟨by rfl, ?_⟩) trivial ?_
  · intro V hSV; go_simp
  simp only [Act.put, List.setIfInBounds_toArray, List.set_cons_zero, List.set_cons_succ]
  refine take_at 3 (.pointer (some ⟨q, 6, none⟩)) rfl (by kernel_rfl) (by kernel_rfl) (by kernel_rfl) (fun _ _ _ h => h) (Or.inl ⟨by rfl, ?_⟩) trivial ?_
  · intro V hSV; go_simp
  simp only [Act.put, List.setIfInBounds_toArray, List.set_cons_zero, List.set_cons_succ]
  refine take_at 5 (.pointer (some ⟨q, 0, none⟩)) rfl (by kernel_rfl) (by kernel_rfl) (by kernel_rfl) (fun _ _ _ h => h) (Or.inl ⟨by rfl, ?_⟩) trivial ?_
  · intro V hSV; go_simp
  simp only [Act.put, List.setIfInBounds_toArray, List.set_cons_zero, List.set_cons_succ]
  refine take_at 6 (.pointer (some ⟨q, 0, none⟩)) rfl (by kernel_rfl) (by kernel_rfl) (by kernel_rfl) (fun _ _ _ h => h) (Or.inl ⟨by rfl, ?_⟩) trivial ?_
  · intro V hSV; go_simp
  simp only [Act.put, List.setIfInBounds_toArray, List.set_cons_zero, List.set_cons_succ]
  refine take_at 7 (.pointer (some ⟨q, 5, none⟩)) rfl (by kernel_rfl) (by kernel_rfl) (by kernel_rfl) (fun _ _ _ h => h) (Or.inl ⟨by rfl, ?_⟩) trivial ?_
  · intro V hSV; go_simp
  simp only [Act.put, List.setIfInBounds_toArray, List.set_cons_zero, List.set_cons_succ]
  refine wpAnyH_ready (rs := [4, 8]) (by kernel_rfl) (by simp) (cons_at 4 (v := .slice ea ends.length ec) (w' := W3.drew) rfl (by rfl) (by have e0 := D6.out; go_simp) trivial ?nA (cons_at 8 (v := .slice a4 n4 c4') (w' := W3.drew) rfl (by rfl) (by have e0 := D5.out; go_simp) trivial ?nB AllReadyH.nil))
  case nA =>
    simp only [Act.put, List.setIfInBounds_toArray, List.set_cons_zero, List.set_cons_succ]
    refine wpAnyH_ready (rs := [8]) (by kernel_rfl) (by simp) (cons_at 8 (v := .slice a4 n4 c4') (w' := W3.drew) rfl (by rfl) (by have e0 := D5.out; go_simp) trivial ?_ AllReadyH.nil)
    simp only [Act.put, List.setIfInBounds_toArray, List.set_cons_zero, List.set_cons_succ]
    refine take_at 9 (.int .i64 n4) rfl (by kernel_rfl) (by kernel_rfl) (by kernel_rfl) (fun _ _ _ h => h) (Or.inl ⟨by rfl, ?_⟩) trivial ?_
    · intro V hSV; go_simp
    simp only [Act.put, List.setIfInBounds_toArray, List.set_cons_zero, List.set_cons_succ]
    refine wpAnyH_ready (rs := [10]) (by kernel_rfl) (by simp) (cons_at 10 rfl (by rfl) (run_buildI _ _ _ _ _ rfl rfl) trivial ?_ AllReadyH.nil)
    simp only [Act.put, List.setIfInBounds_toArray, List.set_cons_zero, List.set_cons_succ]
    refine wpAnyH_ready (rs := [11]) (by kernel_rfl) (by simp) ?_
    refine cons_op 11 rfl (fun KK hK => ?_) AllReadyH.nil
    refine step_append_intB _ rfl _ _ rfl base _ ends n4 rfl (HM3.out.ends.on (hV.out)) W3.heap.size rfl (cell_of (World.alloc_heap_new' _ _) rfl) hel.out (Nat.le_trans HM3.out.base (hV.out).size) ?_
    intro a6 l6 c6 w6 hown6 hgrow6 hblk6
    refine hK.out _ _ trivial (fun hHeld11 => ?_)
    obtain ⟨hm6, hx6⟩ := (HM3.out.on (hV.out)).growEnds hown6 hgrow6 hblk6
    have HM6 := Lib.hid hm6
    have HX6 := Lib.hid ((Ext.of_below _ (hV.out)).trans hx6)
    clear hK KK hown6 hgrow6 hblk6 hm6 hx6
    simp only [Act.put, List.setIfInBounds_toArray, List.set_cons_zero, List.set_cons_succ]
    refine take_at 12 (.pointer (some ⟨q, 0, none⟩)) rfl (by kernel_rfl) (by kernel_rfl) (by kernel_rfl) (fun _ _ _ h => h) (Or.inl ⟨by rfl, ?_⟩) trivial ?_
    · intro V hSV; go_simp
    simp only [Act.put, List.setIfInBounds_toArray, List.set_cons_zero, List.set_cons_succ]
    refine take_at 13 (.pointer (some ⟨q, 6, none⟩)) rfl (by kernel_rfl) (by kernel_rfl) (by kernel_rfl) (fun _ _ _ h => h) (Or.inl ⟨by rfl, ?_⟩) trivial ?_
    · intro V hSV; go_simp
    simp only [Act.put, List.setIfInBounds_toArray, List.set_cons_zero, List.set_cons_succ]
    refine ready_store 14 rfl (by kernel_rfl) (by rfl) 41 _ _ rfl _ _ rfl rfl (store_ints (cell_of HM6.out.blk rfl) (frozen_of HM6.out.blk)) trivial ?_
    simp only [Act.put]
    obtain ⟨hm7, hx7⟩ := HM6.out.set 6 (.slice a6 l6 c6)
    have HE := Lib.hid (HFin.out _ _ _ _ hm7 (HX6.out.trans hx7))
    clear hm7 hx7 HM6 HX6
    refine wpAnyH_done (by kernel_rfl) ?_ _
    refine NoPanic.normal ?_
    clear HM3 HFin hV hel
    go_wp2_with fail
    go_ret
    exact ⟨rfl, HE.out⟩
  case nB =>
    simp only [Act.put, List.setIfInBounds_toArray, List.set_cons_zero, List.set_cons_succ]
    refine take_at 9 (.int .i64 n4) rfl (by kernel_rfl) (by kernel_rfl) (by kernel_rfl) (fun _ _ _ h => h) (Or.inl ⟨by rfl, ?_⟩) trivial ?_
    · intro V hSV; go_simp
    simp only [Act.put, List.setIfInBounds_toArray, List.set_cons_zero, List.set_cons_succ]
    refine wpAnyH_ready (rs := [4, 10]) (by kernel_rfl) (by simp) (cons_at 4 (v := .slice ea ends.length ec) (w' := W3.drew) rfl (by rfl) (by have e0 := D6.out; go_simp) trivial ?nC (cons_at 10 rfl (by rfl) (run_buildI _ _ _ _ _ rfl rfl) trivial ?nD AllReadyH.nil))
    case nC =>
      simp only [Act.put, List.setIfInBounds_toArray, List.set_cons_zero, List.set_cons_succ]
      refine wpAnyH_ready (rs := [10]) (by kernel_rfl) (by simp) (cons_at 10 rfl (by rfl) (run_buildI _ _ _ _ _ rfl rfl) trivial ?_ AllReadyH.nil)
      simp only [Act.put, List.setIfInBounds_toArray, List.set_cons_zero, List.set_cons_succ]
      refine wpAnyH_ready (rs := [11]) (by kernel_rfl) (by simp) ?_
      refine cons_op 11 rfl (fun KK hK => ?_) AllReadyH.nil
      refine step_append_intB _ rfl _ _ rfl base _ ends n4 rfl (HM3.out.ends.on (hV.out)) W3.heap.size rfl (cell_of (World.alloc_heap_new' _ _) rfl) hel.out (Nat.le_trans HM3.out.base (hV.out).size) ?_
      intro a6 l6 c6 w6 hown6 hgrow6 hblk6
      refine hK.out _ _ trivial (fun hHeld11 => ?_)
      obtain ⟨hm6, hx6⟩ := (HM3.out.on (hV.out)).growEnds hown6 hgrow6 hblk6
      have HM6 := Lib.hid hm6
      have HX6 := Lib.hid ((Ext.of_below _ (hV.out)).trans hx6)
      clear hK KK hown6 hgrow6 hblk6 hm6 hx6
      simp only [Act.put, List.setIfInBounds_toArray, List.set_cons_zero, List.set_cons_succ]
      refine take_at 12 (.pointer (some ⟨q, 0, none⟩)) rfl (by kernel_rfl) (by kernel_rfl) (by kernel_rfl) (fun _ _ _ h => h) (Or.inl ⟨by rfl, ?_⟩) trivial ?_
      · intro V hSV; go_simp
      simp only [Act.put, List.setIfInBounds_toArray, List.set_cons_zero, List.set_cons_succ]
      refine take_at 13 (.pointer (some ⟨q, 6, none⟩)) rfl (by kernel_rfl) (by kernel_rfl) (by kernel_rfl) (fun _ _ _ h => h) (Or.inl ⟨by rfl, ?_⟩) trivial ?_
      · intro V hSV; go_simp
      simp only [Act.put, List.setIfInBounds_toArray, List.set_cons_zero, List.set_cons_succ]
      refine ready_store 14 rfl (by kernel_rfl) (by rfl) 41 _ _ rfl _ _ rfl rfl (store_ints (cell_of HM6.out.blk rfl) (frozen_of HM6.out.blk)) trivial ?_
      simp only [Act.put]
      obtain ⟨hm7, hx7⟩ := HM6.out.set 6 (.slice a6 l6 c6)
      have HE := Lib.hid (HFin.out _ _ _ _ hm7 (HX6.out.trans hx7))
      clear hm7 hx7 HM6 HX6
      refine wpAnyH_done (by kernel_rfl) ?_ _
      refine NoPanic.normal ?_
      clear HM3 HFin hV hel
      go_wp2_with fail
      go_ret
      exact ⟨rfl, HE.out⟩
    case nD =>
      simp only [Act.put, List.setIfInBounds_toArray, List.set_cons_zero, List.set_cons_succ]
      refine wpAnyH_ready (rs := [4]) (by kernel_rfl) (by simp) (cons_at 4 (v := .slice ea ends.length ec) (w' := W3.drew.alloc (.cells #[.int .i64 (n4 : Int)] 3)) rfl (by rfl) (by have e0 := D6b.out; go_simp) trivial ?_ AllReadyH.nil)
      simp only [Act.put, List.setIfInBounds_toArray, List.set_cons_zero, List.set_cons_succ]
      refine wpAnyH_ready (rs := [11]) (by kernel_rfl) (by simp) ?_
      refine cons_op 11 rfl (fun KK hK => ?_) AllReadyH.nil
      refine step_append_intB _ rfl _ _ rfl base _ ends n4 rfl (HM3.out.ends.on (hV.out)) W3.heap.size rfl (cell_of (World.alloc_heap_new' _ _) rfl) hel.out (Nat.le_trans HM3.out.base (hV.out).size) ?_
      intro a6 l6 c6 w6 hown6 hgrow6 hblk6
      refine hK.out _ _ trivial (fun hHeld11 => ?_)
      obtain ⟨hm6, hx6⟩ := (HM3.out.on (hV.out)).growEnds hown6 hgrow6 hblk6
      have HM6 := Lib.hid hm6
      have HX6 := Lib.hid ((Ext.of_below _ (hV.out)).trans hx6)
      clear hK KK hown6 hgrow6 hblk6 hm6 hx6
      simp only [Act.put, List.setIfInBounds_toArray, List.set_cons_zero, List.set_cons_succ]
      refine take_at 12 (.pointer (some ⟨q, 0, none⟩)) rfl (by kernel_rfl) (by kernel_rfl) (by kernel_rfl) (fun _ _ _ h => h) (Or.inl ⟨by rfl, ?_⟩) trivial ?_
      · intro V hSV; go_simp
      simp only [Act.put, List.setIfInBounds_toArray, List.set_cons_zero, List.set_cons_succ]
      refine take_at 13 (.pointer (some ⟨q, 6, none⟩)) rfl (by kernel_rfl) (by kernel_rfl) (by kernel_rfl) (fun _ _ _ h => h) (Or.inl ⟨by rfl, ?_⟩) trivial ?_
      · intro V hSV; go_simp
      simp only [Act.put, List.setIfInBounds_toArray, List.set_cons_zero, List.set_cons_succ]
      refine ready_store 14 rfl (by kernel_rfl) (by rfl) 41 _ _ rfl _ _ rfl rfl (store_ints (cell_of HM6.out.blk rfl) (frozen_of HM6.out.blk)) trivial ?_
      simp only [Act.put]
      obtain ⟨hm7, hx7⟩ := HM6.out.set 6 (.slice a6 l6 c6)
      have HE := Lib.hid (HFin.out _ _ _ _ hm7 (HX6.out.trans hx7))
      clear hm7 hx7 HM6 HX6
      refine wpAnyH_done (by kernel_rfl) ?_ _
      refine NoPanic.normal ?_
      clear HM3 HFin hV hel
      go_wp2_with fail
      go_ret
      exact ⟨rfl, HE.out⟩
/-- Append, whatever is laid behind. -/
theorem jappend_ {w : World} {base p aa bb q : Nat} {d : Dev} {K : Nat} {J : Jr} {rv ev : Value} (h : Jn w base p aa bb q d K J rv ev) (a : Option Addr) (xs : List Nat) (l c : Nat) (hl : xs.length = l) (hby : BytesIn w a xs) (hx : ∀ x ∈ xs, x < 256) (hc : a = none → c = 0) (hlim : l ≤ 9223372036854775807) :
    Calls Tryz.prog 18 #[.pointer (some ⟨q, 0, none⟩), .slice a l c] w fun e w' => e = .returned (errV (appE J xs)) ∧ JnTo w base p aa bb q rv ev d K (appJ J xs) w' := by
  by_cases hd : J.dead = 0
  · by_cases hr : refu xs.length = 0
    · by_cases hf : 64 * J.a.s.toNat < J.row.length + (recB J.ep xs).length
      · exact jappend_full h a xs l c hl hby hx hc hlim hd hr hf
      · exact jappend_ok h a xs l c hl hby hx hc hlim hd hr hf
    · exact jappend_bad h a xs l c hl hby hx hc hlim hd hr
  · exact jappend_dead h a xs l c hd
end Go.Proofs.YtjnhcanohefjiaaGreatDoor

namespace Go.Proofs.YtjnhcanohefjiaaGreatDoor
open Go.RowKit Go.Sort Go.Maps

/-- What Flush answers, and what is left of the device and the journal. -/
def flushE (d : Dev) (J : Jr) : Nat := if J.dead ≠ 0 then J.dead else if J.sf = J.pss.length then 0 else wrtE J.a J.row (J.upto J.sf) d
def flushD (d : Dev) (J : Jr) : Dev := if J.dead ≠ 0 then d else if J.sf = J.pss.length then d else wrtD J.a J.row (J.upto J.sf) d
def flushJ (d : Dev) (J : Jr) : Jr := if J.dead ≠ 0 then J else if J.sf = J.pss.length then J else if wrtE J.a J.row (J.upto J.sf) d = 0 then { J with sf := J.pss.length } else { J with dead := wrtE J.a J.row (J.upto J.sf) d }
/-- What Rewind answers, and what is left. -/
def rewE (d : Dev) (J : Jr) : Nat := if J.dead ≠ 0 then J.dead else cleanE J.a [] d
def rewD (d : Dev) (J : Jr) : Dev := if J.dead ≠ 0 then d else cleanD J.a [] d
def rewJ (d : Dev) (J : Jr) (ep : Nat) : Jr := if J.dead ≠ 0 then J else ⟨J.a, ep, [], 0, cleanE J.a [] d⟩
theorem Jn.mono {w : World} {base p aa bb q : Nat} {d : Dev} {K K' : Nat} {J : Jr} {rv ev : Value} (h : Jn w base p aa bb q d K J rv ev) (hk : K ≤ K') (hl : K' ≤ 1000000) : Jn w base p aa bb q d K' J rv ev := ⟨h.dev.mono hk hl, h.jr, h.lo⟩
theorem okJ.all {J : Jr} (h : okJ J) : okJ { J with sf := J.pss.length } := ⟨h.pays, h.ep, Nat.le_refl _, h.len, h.g, h.f, h.s⟩
theorem okJ.none {J : Jr} (h : okJ J) {ep : Nat} (he : ep < 18446744073709551616) (k : Nat) : okJ ⟨J.a, ep, [], 0, k⟩ := ⟨fun p hp => (by cases hp), he, Nat.le_refl _, Nat.zero_le _, h.g, h.f, h.s⟩
set_option maxRecDepth 100000 in
set_option maxHeartbeats 2000000 in
theorem jflush_ {w : World} {base p aa bb q : Nat} {d : Dev} {K : Nat} {J : Jr} {rv ev : Value} (h : Jn w base p aa bb q d K J rv ev) (hK : K + J.a.s.toNat < 1000000) :
    Calls Tryz.prog 19 #[.pointer (some ⟨q, 0, none⟩)] w fun e w' => e = .returned (errV (flushE d J)) ∧ JnTo w base p aa bb q rv ev (flushD d J) (K + J.a.s.toNat) (flushJ d J) w' := by
  have HRf := Lib.hid (jrefuse_ h.jr)
  by_cases hd : J.dead ≠ 0
  · have e1 : flushE d J = J.dead := if_pos hd
    have e2 : flushD d J = d := if_pos hd
    have e3 : flushJ d J = J := if_pos hd
    have HE := Lib.hid (JnTo.same (h.mono (K' := K + J.a.s.toNat) (by omega) (by omega)) (Below.refl _ _))
    rw [e1, e2, e3]
    rw [errV_not hd] at HRf ⊢
    clear h e1 e2 e3
    go_enter Tryz.func19, Tryz.ntmps19
    go_wp2_with (first | (go_at_call 41; refine HRf.out.mono ?_; rintro e w1 ⟨rfl, rfl⟩) | fail)
    go_ret
    exact ⟨rfl, HE.out⟩
  have e0 : errV J.dead = .nilIface := by rw [show J.dead = 0 by simpa using hd]; rfl
  have e00 : errV 0 = .nilIface := rfl
  rw [e0] at HRf
  have HWt := Lib.hid (jwaits_ h.jr)
  have hsf := h.jr.ok.sf
  by_cases hs : J.sf = J.pss.length
  · have e1 : flushE d J = 0 := by unfold flushE; rw [if_neg hd, if_pos hs]
    have e2 : flushD d J = d := by unfold flushD; rw [if_neg hd, if_pos hs]
    have e3 : flushJ d J = J := by unfold flushJ; rw [if_neg hd, if_pos hs]
    have HE : Hid (∀ w', Below w.heap.size w w' → JnTo w base p aa bb q rv ev d (K + J.a.s.toNat) J w') := fun w' hb => JnTo.same (h.mono (K' := K + J.a.s.toNat) (by omega) (by omega)) hb
    rw [e1, e2, e3, e00]
    rw [show J.pss.length - J.sf = 0 by omega] at HWt
    clear h e1 e2 e3
    go_enter Tryz.func19, Tryz.ntmps19
    go_wp2_with (first
      | (go_at_call 41; refine HRf.out.mono ?_; rintro e w1 ⟨rfl, rfl⟩)
      | (go_at_call 16; refine HWt.out.mono ?_; rintro e w2 ⟨rfl, hb2⟩; have HB2 := Lib.hid hb2; clear hb2)
      | fail)
    go_ret
    exact ⟨rfl, HE.out _ HB2.out⟩
  have HWr : Hid (∀ V, Below w.heap.size w V → Calls Tryz.prog 43 #[.pointer (some ⟨q, 0, none⟩)] V fun e w' => e = .returned (errV (wrtE J.a J.row (J.upto J.sf) d)) ∧ Jn w' base p aa bb q (wrtD J.a J.row (J.upto J.sf) d) (K + J.a.s.toNat) J rv ev ∧ Ext (Mine p aa bb q rv ev) (Mine p aa bb q rv ev) w w') := fun V hV => (jwrite_ (h.jr.on hV) (h.dev.on hV) (by omega) hK).mono fun e w' ⟨q1, q2, q3⟩ => ⟨q1, (h.on hV).fd q2 q3, (Ext.of_below _ hV).trans (Ext.of_fd q rv ev q3)⟩
  obtain ⟨ea, ec, hev, _⟩ := h.jr.ends.shape
  rw [ends_len] at hev
  have hcn := h.jr.ok.count
  obtain ⟨k, hk⟩ : ∃ k, k = wrtE J.a J.row (J.upto J.sf) d := ⟨_, rfl⟩
  have e1 : flushE d J = k := by unfold flushE; rw [if_neg hd, if_neg hs, hk]
  have e2 : flushD d J = wrtD J.a J.row (J.upto J.sf) d := by unfold flushD; rw [if_neg hd, if_neg hs]
  have e3 : flushJ d J = if k = 0 then { J with sf := J.pss.length } else { J with dead := k } := by unfold flushJ; rw [if_neg hd, if_neg hs, hk]
  obtain ⟨wt, hwt⟩ : ∃ wt, wt = J.pss.length - J.sf := ⟨_, rfl⟩
  have hw0 : ((wt : Int) == 0) = false := by simpa using (by omega : ¬ (wt : Int) = 0)
  rw [e1, e2, e3]
  rw [← hk] at HWr
  rw [← hwt] at HWt
  generalize wrtD J.a J.row (J.upto J.sf) d = d1 at *
  generalize hK1 : K + J.a.s.toNat = K1 at *
  clear h e1 e2 e3 hk hwt hd hs hK1
  by_cases hk0 : k = 0
  · rw [if_pos hk0]
    subst hk0
    rw [e00] at HWr ⊢
    have HOk : Hid (∀ w2, Jn w2 base p aa bb q d1 K1 J rv ev → Ext (Mine p aa bb q rv ev) (Mine p aa bb q rv ev) w w2 → JnTo w base p aa bb q rv ev d1 K1 { J with sf := J.pss.length } (w2.setCell ⟨q, 7, none⟩ (.int .i64 (J.pss.length : Nat)))) := fun w2 hj hx => by
      have hb : (w2.setCell ⟨q, 7, none⟩ (.int .i64 (J.pss.length : Nat))).heap[q]? = some (.cells (jrC p { J with sf := J.pss.length } rv ev) 80 (0, 0)) := heap_set _ hj.jr.blk
      have hf : ∀ i, i ≠ q → (w2.setCell ⟨q, 7, none⟩ (.int .i64 (J.pss.length : Nat))).heap[i]? = w2.heap[i]? := fun i hi => heap_far _ hi
      exact ⟨rv, ev, hj.setq hb hf hj.jr.row hj.jr.ends hj.jr.ok.all, hx.trans (Ext.setq rfl rfl rfl (by simp [World.setCell]) hf (fun _ h => h) (fun _ h => h))⟩
    subst hev
    generalize hn : J.pss.length = n at *
    go_enter Tryz.func19, Tryz.ntmps19
    go_wp2_with (first
      | (go_at_call 41; refine HRf.out.mono ?_; rintro e w1 ⟨rfl, rfl⟩)
      | (go_at_call 16; refine HWt.out.mono ?_; rintro e w2 ⟨rfl, hb2⟩; have HB2 := Lib.hid hb2; clear hb2)
      | (go_at_call 43; refine (HWr.out _ HB2.out).mono ?_; rintro e w3 ⟨rfl, hj3, hx3⟩
         have HZ := Lib.hid (HOk.out _ hj3 hx3)
         have q6 : w3.cell? ⟨q, 6, none⟩ = some (.slice ea n ec) := hj3.jr.cells.2.2.2.2.2.2.1
         have q7 : w3.cell? ⟨q, 7, none⟩ = some (.int .i64 J.sf) := hj3.jr.cells.2.2.2.2.2.2.2.1
         have f7 : w3.frozen? ⟨q, 7, none⟩ = false := frozen_of hj3.jr.blk
         clear hj3 hx3)
      | fail)
    go_ret
    exact ⟨rfl, HZ.out⟩
  · rw [if_neg hk0]
    have HFl : Hid (∀ w2, Jn w2 base p aa bb q d1 K1 J rv ev → Ext (Mine p aa bb q rv ev) (Mine p aa bb q rv ev) w w2 → Calls Tryz.prog 44 #[.pointer (some ⟨q, 0, none⟩), errV k] w2 fun e w' => e = .returned (errV k) ∧ JnTo w base p aa bb q rv ev d1 K1 { J with dead := k } w') := fun w2 hj hx => (jfail_ hj k).mono fun e w' ⟨q1, q2, q3⟩ => ⟨q1, rv, ev, q2, hx.trans q3⟩
    rw [errV_not hk0] at HWr ⊢
    simp only [errV_not hk0] at HFl
    clear hev
    go_enter Tryz.func19, Tryz.ntmps19
    go_wp2_with (first
      | (go_at_call 41; refine HRf.out.mono ?_; rintro e w1 ⟨rfl, rfl⟩)
      | (go_at_call 16; refine HWt.out.mono ?_; rintro e w2 ⟨rfl, hb2⟩; have HB2 := Lib.hid hb2; clear hb2)
      | (go_at_call 43; refine (HWr.out _ HB2.out).mono ?_; rintro e w3 ⟨rfl, hj3, hx3⟩
         have HF3 := Lib.hid (HFl.out _ hj3 hx3)
         clear hj3 hx3)
      | (go_at_call 44; refine HF3.out.mono ?_; rintro e w4 ⟨rfl, hz⟩; have HZ := Lib.hid hz; clear hz)
      | fail)
    go_ret
    exact ⟨rfl, HZ.out⟩
set_option maxRecDepth 100000 in
set_option maxHeartbeats 2000000 in
theorem jrewind_ {w : World} {base p aa bb q : Nat} {d : Dev} {K : Nat} {J : Jr} {rv ev : Value} (h : Jn w base p aa bb q d K J rv ev) (hK : K + J.a.s.toNat < 1000000) (ep : Nat) (he : ep < 18446744073709551616) (hcr : J.dead = 0 → d.crashed = false) (hin : inJ d J.a) :
    Calls Tryz.prog 20 #[.pointer (some ⟨q, 0, none⟩), .int .u64 ep] w fun e w' => e = .returned (errV (rewE d J)) ∧ JnTo w base p aa bb q rv ev (rewD d J) (K + J.a.s.toNat) (rewJ d J ep) w' := by
  have HRf := Lib.hid (jrefuse_ h.jr)
  by_cases hd : J.dead ≠ 0
  · have e1 : rewE d J = J.dead := if_pos hd
    have e2 : rewD d J = d := if_pos hd
    have e3 : rewJ d J ep = J := if_pos hd
    have HE := Lib.hid (JnTo.same (h.mono (K' := K + J.a.s.toNat) (by omega) (by omega)) (Below.refl _ _))
    rw [e1, e2, e3]
    rw [errV_not hd] at HRf ⊢
    clear h e1 e2 e3
    go_enter Tryz.func20, Tryz.ntmps20
    go_wp2_with (first | (go_at_call 41; refine HRf.out.mono ?_; rintro e w1 ⟨rfl, rfl⟩) | fail)
    go_ret
    exact ⟨rfl, HE.out⟩
  have hd0 : J.dead = 0 := by simpa using hd
  have e0 : errV J.dead = .nilIface := by rw [hd0]; rfl
  rw [e0] at HRf
  have hc := hcr hd0
  have e1 : rewE d J = cleanE J.a [] d := if_neg hd
  have e2 : rewD d J = cleanD J.a [] d := if_neg hd
  have e3 : rewJ d J ep = ⟨J.a, ep, [], 0, cleanE J.a [] d⟩ := if_neg hd
  rw [e1, e2, e3]
  obtain ⟨_, _, _, _, q4, q5, q6, q7, _⟩ := h.jr.cells
  have f4 : w.frozen? ⟨q, 4, none⟩ = false := frozen_of h.jr.blk
  have b1 := heap_set (o := 4) (.int .u64 (ep : Int)) h.jr.blk
  have b2 := heap_set (o := 5) (.slice none 0 0) b1
  have b3 := heap_set (o := 6) (.slice none 0 0) b2
  have b4 := heap_set (o := 7) (.int .i64 0) b3
  have k5 : (w.setCell ⟨q, 4, none⟩ (.int .u64 (ep : Int))).cell? ⟨q, 5, none⟩ = some rv := cell_of b1 rfl
  have g5 : (w.setCell ⟨q, 4, none⟩ (.int .u64 (ep : Int))).frozen? ⟨q, 5, none⟩ = false := frozen_of b1
  have k6 : ((w.setCell ⟨q, 4, none⟩ (.int .u64 (ep : Int))).setCell ⟨q, 5, none⟩ (.slice none 0 0)).cell? ⟨q, 6, none⟩ = some ev := cell_of b2 rfl
  have g6 : ((w.setCell ⟨q, 4, none⟩ (.int .u64 (ep : Int))).setCell ⟨q, 5, none⟩ (.slice none 0 0)).frozen? ⟨q, 6, none⟩ = false := frozen_of b2
  have k7 : (((w.setCell ⟨q, 4, none⟩ (.int .u64 (ep : Int))).setCell ⟨q, 5, none⟩ (.slice none 0 0)).setCell ⟨q, 6, none⟩ (.slice none 0 0)).cell? ⟨q, 7, none⟩ = some (.int .i64 J.sf) := cell_of b3 rfl
  have g7 : (((w.setCell ⟨q, 4, none⟩ (.int .u64 (ep : Int))).setCell ⟨q, 5, none⟩ (.slice none 0 0)).setCell ⟨q, 6, none⟩ (.slice none 0 0)).frozen? ⟨q, 7, none⟩ = false := frozen_of b3
  obtain ⟨W, hW⟩ : ∃ W, W = (((w.setCell ⟨q, 4, none⟩ (.int .u64 (ep : Int))).setCell ⟨q, 5, none⟩ (.slice none 0 0)).setCell ⟨q, 6, none⟩ (.slice none 0 0)).setCell ⟨q, 7, none⟩ (.int .i64 0) := ⟨_, rfl⟩
  have hbW : W.heap[q]? = some (.cells (jrC p ⟨J.a, ep, [], 0, 0⟩ (.slice none 0 0) (.slice none 0 0)) 80 (0, 0)) := by
    rw [hW, b4]
    simp only [jrC, hd0]
    rfl
  have hfW : ∀ i, i ≠ q → W.heap[i]? = w.heap[i]? := fun i hi => by rw [hW, heap_far _ hi, heap_far _ hi, heap_far _ hi, heap_far _ hi]
  have hjW : Jn W base p aa bb q d K ⟨J.a, ep, [], 0, 0⟩ (.slice none 0 0) (.slice none 0 0) := h.setq hbW hfW (own_nil _ _) (ownI_nil _ _) (h.jr.ok.none he 0)
  have hxW : Ext (Mine p aa bb q rv ev) (Mine p aa bb q (.slice none 0 0) (.slice none 0 0)) w W := Ext.setq (by rw [hW]; rfl) (by rw [hW]; rfl) (by rw [hW]; rfl) (by rw [hW]; simp [World.setCell]) hfW (fun k e => by cases e) (fun k e => by cases e)
  have HCl : Hid (Calls Tryz.prog 28 #[.pointer (some ⟨q, 0, none⟩)] W fun e w' => e = .returned (errV (cleanE J.a [] d)) ∧ Jn w' base p aa bb q (cleanD J.a [] d) (K + J.a.s.toNat) ⟨J.a, ep, [], 0, 0⟩ (.slice none 0 0) (.slice none 0 0) ∧ Ext (Mine p aa bb q rv ev) (Mine p aa bb q (.slice none 0 0) (.slice none 0 0)) w w') :=
    (jclean_ hjW.jr hjW.dev hc hin hK).mono fun e w' ⟨q1, q2, q3⟩ => ⟨q1, hjW.fd q2 q3, hxW.trans (Ext.of_fd q _ _ q3)⟩
  have HFl : Hid (∀ w2, Jn w2 base p aa bb q (cleanD J.a [] d) (K + J.a.s.toNat) ⟨J.a, ep, [], 0, 0⟩ (.slice none 0 0) (.slice none 0 0) → Ext (Mine p aa bb q rv ev) (Mine p aa bb q (.slice none 0 0) (.slice none 0 0)) w w2 → Calls Tryz.prog 44 #[.pointer (some ⟨q, 0, none⟩), errV (cleanE J.a [] d)] w2 fun e w' => e = .returned (errV (cleanE J.a [] d)) ∧ JnTo w base p aa bb q rv ev (cleanD J.a [] d) (K + J.a.s.toNat) ⟨J.a, ep, [], 0, cleanE J.a [] d⟩ w') := fun w2 hj hx => (jfail_ hj _).mono fun e w' ⟨q1, q2, q3⟩ => ⟨q1, _, _, q2, hx.trans q3⟩
  have HW := Lib.hid hW
  generalize (⟨J.a, ep, [], 0, cleanE J.a [] d⟩ : Jr) = J2 at *
  generalize cleanE J.a [] d = k at *
  generalize cleanD J.a [] d = d1 at *
  generalize hKK : K + J.a.s.toNat = K1 at *
  clear h e1 e2 e3 hd hW hbW hfW hjW hxW b1 b2 b3 b4 hKK
  obtain ⟨kv, hkv⟩ : ∃ kv, kv = errV k := ⟨_, rfl⟩
  rw [← hkv] at HCl HFl ⊢
  clear hkv
  go_enter Tryz.func20, Tryz.ntmps20
  go_wp2_with (first
    | (go_at_call 41; refine HRf.out.mono ?_; rintro e w1 ⟨rfl, rfl⟩)
    | (go_at_call 28; rw [← HW.out]; refine HCl.out.mono ?_; rintro e w3 ⟨rfl, hj3, hx3⟩
       have HF3 := Lib.hid (HFl.out _ hj3 hx3)
       clear hj3 hx3)
    | (go_at_call 44; refine HF3.out.mono ?_; rintro e w4 ⟨rfl, hz⟩; have HZ := Lib.hid hz; clear hz)
    | fail)
  go_ret
  exact ⟨rfl, HZ.out⟩
end Go.Proofs.YtjnhcanohefjiaaGreatDoor

namespace Go.Proofs.YtjnhcanohefjiaaGreatDoor
open Go.RowKit Go.Sort Go.Maps

structure Calm (d : Dev) (J : Jr) : Prop where
  ok : okD d
  pend : d.pend = []
  cr : d.crashed = false
  inn : inJ d J.a
  lies : Lies d J.a (allB J.ep (J.pss.take J.sf))
  alive : J.dead = 0
theorem app_keeps (J : Jr) (xs : List Nat) : (appJ J xs).a = J.a ∧ (appJ J xs).ep = J.ep ∧ (appJ J xs).sf = J.sf ∧ (appJ J xs).dead = J.dead ∧ (appJ J xs).pss = if appE J xs = 0 then J.pss ++ [xs] else J.pss := by
  unfold appJ
  split <;> exact ⟨rfl, rfl, rfl, rfl, rfl⟩
theorem Calm.append {d : Dev} {J : Jr} (h : Calm d J) (hs : J.sf ≤ J.pss.length) (xs : List Nat) : Calm d (appJ J xs) := by
  obtain ⟨a1, a2, a3, a4, a5⟩ := app_keeps J xs
  refine ⟨h.ok, h.pend, h.cr, by rw [a1]; exact h.inn, ?_, a4.trans h.alive⟩
  rw [a1, a2, a3, a5]
  split
  · rw [List.take_append_of_le_length hs]; exact h.lies
  · exact h.lies
theorem flush_none {d : Dev} {J : Jr} (h : J.sf = J.pss.length) : flushD d J = d ∧ flushJ d J = J ∧ flushE d J = J.dead := by
  unfold flushD flushJ flushE
  by_cases hd : J.dead ≠ 0
  · simp only [if_pos hd]
    exact ⟨trivial, trivial, trivial⟩
  · simp only [if_neg hd, if_pos h]
    exact ⟨trivial, trivial, by simpa using (Eq.symm (by simpa using hd))⟩
theorem flush_some {d : Dev} {J : Jr} (hd : J.dead = 0) (h : J.sf ≠ J.pss.length) : flushD d J = wrtD J.a J.row (J.upto J.sf) d ∧ flushE d J = wrtE J.a J.row (J.upto J.sf) d ∧ flushJ d J = (if wrtE J.a J.row (J.upto J.sf) d = 0 then { J with sf := J.pss.length } else { J with dead := wrtE J.a J.row (J.upto J.sf) d }) := by
  have hd' : ¬ J.dead ≠ 0 := fun e => e hd
  unfold flushD flushJ flushE
  simp only [if_neg hd', if_neg h]
  exact ⟨trivial, trivial, trivial⟩
theorem Calm.row {d : Dev} {J : Jr} (h : Calm d J) : Lies d J.a (J.row.take (J.upto J.sf)) := by rw [upto_take]; exact h.lies
/-- A Flush that goes well. -/
theorem Calm.flush {d : Dev} {J : Jr} (h : Calm d J) (hj : okJ J) (he : flushE d J = 0) : Calm (flushD d J) (flushJ d J) ∧ flushJ d J = { J with sf := J.pss.length } := by
  by_cases hs : J.sf = J.pss.length
  · obtain ⟨f1, f2, _⟩ := flush_none (d := d) hs
    rw [f1, f2]
    refine ⟨h, ?_⟩
    rw [← hs]
  · obtain ⟨f1, f2, f3⟩ := flush_some (d := d) h.alive hs
    rw [f2] at he
    rw [f1, f3, if_pos he]
    have hlt := upto_lt (J := J) (n := J.sf) (by have := hj.sf; omega)
    obtain ⟨g1, g2, g3, g4, g5, g6⟩ := wrt_good h.ok h.pend h.cr h.inn hj.byte hlt hj.len h.row he
    refine ⟨⟨g3, g1, g2, ?_, ?_, h.alive⟩, rfl⟩
    · show inJ (wrtD J.a J.row (J.upto J.sf) d) J.a
      unfold inJ
      rw [g5, g6]
      exact h.inn
    · show Lies _ J.a (allB J.ep (J.pss.take J.pss.length))
      rw [List.take_length]
      exact g4
theorem Calm.flush_calm {d : Dev} {J : Jr} (h : Calm d J) (hj : okJ J) (ha : d.armed = false) : flushE d J = 0 ∧ (flushD d J).armed = false := by
  by_cases hs : J.sf = J.pss.length
  · obtain ⟨f1, f2, f3⟩ := flush_none (d := d) hs
    rw [f1, f3]
    exact ⟨h.alive, ha⟩
  · obtain ⟨f1, f2, f3⟩ := flush_some (d := d) h.alive hs
    have hlt := upto_lt (J := J) (n := J.sf) (by have := hj.sf; omega)
    rw [f1, f2]
    exact wrt_calm h.ok h.pend h.cr h.inn hj.byte hlt hj.len ha
/-- A new begin that goes well. -/
theorem Calm.rewind {d : Dev} {J : Jr} (h : Calm d J) (ep : Nat) (he : rewE d J = 0) : Calm (rewD d J) (rewJ d J ep) ∧ rewJ d J ep = ⟨J.a, ep, [], 0, 0⟩ := by
  have hd' : ¬ J.dead ≠ 0 := fun e => e h.alive
  unfold rewE at he
  unfold rewD rewJ
  rw [if_neg hd'] at he
  simp only [if_neg hd', he]
  obtain ⟨g1, g2, g3, g4, g5, g6⟩ := clean_good h.ok h.pend h.cr h.inn (fun x hx => by cases hx) (begins_nil _ _) he
  refine ⟨⟨g3, g1, g2, ?_, g4, rfl⟩, trivial⟩
  unfold inJ
  rw [g5, g6]
  exact h.inn
/-- A device at rest, opened. -/
structure Rest (d : Dev) (a : Ar) : Prop where
  ok : okD d
  pend : d.pend = []
  cr : d.crashed = false
  arm : d.armed = false
  inn : inJ d a
  lim : 1 ≤ d.r ∧ d.r ≤ 16 ∧ 1 ≤ d.s ∧ d.s ≤ 16384
theorem Rest.opened {d : Dev} {a : Ar} (h : Rest d a) {ep : Nat} (he : ep < 18446744073709551616) : cleanE a (openJ d a ep).row d = 0 ∧ Calm (cleanD a (openJ d a ep).row d) (openJ d a ep) ∧ (cleanD a (openJ d a ep).row d).armed = false := by
  obtain ⟨o1, o2, o3, o4, o5, o6, o7, o8⟩ := open_good h.ok h.pend h.cr h.arm h.inn h.lim he
  refine ⟨o1, ⟨o5, o3, o4, ?_, ?_, rfl⟩, o2⟩
  · show inJ (cleanD a (openJ d a ep).row d) a
    unfold inJ
    rw [o7, o8]
    exact h.inn
  · show Lies _ a (allB ep ((scan ep (heldJ d a)).1.take (scan ep (heldJ d a)).1.length))
    rw [List.take_length]
    exact o6
theorem Rest.new (r s : Int) (hl : 1 ≤ r ∧ r ≤ 16 ∧ 1 ≤ s ∧ s ≤ 16384) (a : Ar) (hin : inJ (newD r s) a) : Rest (newD r s) a := ⟨okD_new r s, rfl, rfl, rfl, hin, hl⟩
theorem Rest.restart {d : Dev} {a : Ar} (hok : okD d) (hin : inJ d a) (hl : 1 ≤ d.r ∧ d.r ≤ 16 ∧ 1 ≤ d.s ∧ d.s ≤ 16384) (ns : List Int) : Rest (restartD d ns) a := ⟨okD_restart' hok ns, rfl, rfl, rfl, hin, hl⟩
/-- A journal behind a restart: what was flushed is told. -/
theorem Calm.told {d : Dev} {J : Jr} (h : Calm d J) (hj : okJ J) (ns : List Int) : (openJ (restartD d ns) J.a J.ep).pss = J.pss.take J.sf := by
  have hl : (allB J.ep (J.pss.take J.sf)).length ≤ 64 * J.a.s.toNat := Nat.le_trans (upto_le J J.sf) hj.len
  show (scan J.ep (heldJ (restartD d ns) J.a)).1 = _
  rw [scan_lies (okD_restart' h.ok ns) hj.ep (fun p hp => hj.pays p (List.mem_of_mem_take hp)) hl (lies_restart h.pend h.lies ns)]
theorem new_held (r s : Int) (a : Ar) : heldJ (newD r s) a = List.replicate (64 * a.s.toNat) 0 := by
  have hl : Lies (newD r s) a [] := fun i _ => by simp [partJ, fillC, readD, newD, getP, zeroC]
  rw [lies_held (okD_new r s) hl (by simp)]
  simp
theorem open_new (r s : Int) (a : Ar) (ep : Nat) : openJ (newD r s) a ep = ⟨a, ep, [], 0, 0⟩ := by
  unfold openJ
  rw [new_held, scan_stop ep _ (one_zeros ep _)]
  rfl
/-- Whatever a crash of a Flush leaves: what was flushed is told. -/
theorem Calm.crash {d : Dev} {J : Jr} (h : Calm d J) (hj : okJ J) (ns : List Int) : okD (restartD (flushD d J) ns) ∧ (restartD (flushD d J) ns).r = d.r ∧ (restartD (flushD d J) ns).s = d.s ∧ J.sf ≤ (openJ (restartD (flushD d J) ns) J.a J.ep).pss.length := by
  by_cases hs : J.sf = J.pss.length
  · obtain ⟨f1, _, _⟩ := flush_none (d := d) hs
    rw [f1]
    refine ⟨okD_restart' h.ok ns, rfl, rfl, ?_⟩
    rw [h.told hj ns, List.length_take]
    have := hj.sf
    omega
  · obtain ⟨f1, _, _⟩ := flush_some (d := d) h.alive hs
    have hlt := upto_lt (J := J) (n := J.sf) (by have := hj.sf; omega)
    obtain ⟨c1, c2, c3, c4⟩ := wrt_crash h.ok h.pend h.cr h.inn hj.byte hlt hj.len h.row ns
    rw [f1]
    refine ⟨c1, c2, c3, ?_⟩
    rw [upto_take] at c4
    have e : heldJ (restartD (wrtD J.a J.row (J.upto J.sf) d) ns) J.a = allB J.ep (J.pss.take J.sf) ++ (heldJ (restartD (wrtD J.a J.row (J.upto J.sf) d) ns) J.a).drop (J.upto J.sf) := by rw [← c4, List.take_append_drop]
    show J.sf ≤ (scan J.ep (heldJ (restartD (wrtD J.a J.row (J.upto J.sf) d) ns) J.a)).1.length
    rw [e, scan_more J.ep hj.ep _ (fun x hx => held_byte c1 _ x (List.mem_of_mem_drop hx)) _ (fun p hp => hj.pays p (List.mem_of_mem_take hp))]
    simp only [List.length_append, List.length_take]
    have := hj.sf
    omega
end Go.Proofs.YtjnhcanohefjiaaGreatDoor
