/- Records one behind the other, plainly; rows of numbers, and three rows that grow beside one another. -/
import Derived.Test.YtjnhcanohefjiaaGreatDoorRcScan
namespace Go.Proofs.YtjnhcanohefjiaaGreatDoor
open Go.RowKit Go.Sort Go.Maps

/-- A payload that may be. -/
def OkP (p : List Nat) : Prop := p ≠ [] ∧ p.length ≤ 1048576 ∧ ∀ x ∈ p, x < 256
/-- Payloads framed one behind the other. -/
def allB (ep : Nat) (pss : List (List Nat)) : List Nat := (pss.map (recB ep)).flatten
theorem allB_nil (ep : Nat) : allB ep [] = [] := rfl
theorem allB_cons (ep : Nat) (p : List Nat) (pss : List (List Nat)) : allB ep (p :: pss) = recB ep p ++ allB ep pss := by simp [allB]
theorem allB_append (ep : Nat) (pss qss : List (List Nat)) : allB ep (pss ++ qss) = allB ep pss ++ allB ep qss := by simp [allB]
theorem allB_one (ep : Nat) (p : List Nat) : allB ep [p] = recB ep p := by simp [allB]
theorem allB_byte (ep : Nat) : ∀ pss : List (List Nat), (∀ p ∈ pss, OkP p) → ∀ x ∈ allB ep pss, x < 256
  | [], _, x, hx => by simp [allB] at hx
  | p :: pss, h, x, hx => by
    rw [allB_cons] at hx
    rcases List.mem_append.1 hx with hx | hx
    · exact recB_byte ep p (h p (List.mem_cons_self ..)).2.2 x hx
    · exact allB_byte ep pss (fun q hq => h q (List.mem_cons_of_mem _ hq)) x hx
/-- All of them are read as they were, whatever stands behind that is no record. -/
theorem scan_all (ep : Nat) (he : ep < 18446744073709551616) (ys : List Nat) (hy : ∀ x ∈ ys, x < 256) (hs : (one ep ys).2.2 ≠ 0) : ∀ pss : List (List Nat), (∀ p ∈ pss, OkP p) → scan ep (allB ep pss ++ ys) = (pss, (allB ep pss).length)
  | [], _ => by rw [allB_nil, List.nil_append, scan_stop ep ys hs]; rfl
  | p :: pss, h => by
    have hp := h p (List.mem_cons_self ..)
    have ih := scan_all ep he ys hy hs pss (fun q hq => h q (List.mem_cons_of_mem _ hq))
    have hb : ∀ x ∈ allB ep (p :: pss) ++ ys, x < 256 := fun x hx => by
      rcases List.mem_append.1 hx with hx | hx
      · exact allB_byte ep _ h x hx
      · exact hy x hx
    have e : allB ep (p :: pss) ++ ys = recB ep p ++ (allB ep pss ++ ys) := by rw [allB_cons, List.append_assoc]
    have h1 := one_rec ep p (allB ep pss ++ ys) he hp.1 hp.2.1
    rw [← e] at h1
    rw [scan_go ep _ hb (by rw [h1]), h1]
    simp only
    rw [e, List.drop_left, ih, allB_cons, List.length_append]
theorem one_nil (ep : Nat) : one ep [] = ([], 0, 8) := rfl
/-- Cut anywhere: the records that lie ahead of the cut, and no other ones. -/
theorem scan_cut (ep : Nat) (he : ep < 18446744073709551616) (pss : List (List Nat)) (h : ∀ p ∈ pss, OkP p) (k cut : Nat) (hk : k ≤ pss.length) (h1 : (allB ep (pss.take k)).length ≤ cut) (h2 : k = pss.length ∧ cut ≤ (allB ep pss).length ∨ k < pss.length ∧ cut < (allB ep (pss.take (k + 1))).length) :
    scan ep ((allB ep pss).take cut) = (pss.take k, (allB ep (pss.take k)).length) := by
  have hs : allB ep pss = allB ep (pss.take k) ++ allB ep (pss.drop k) := by rw [← allB_append, List.take_append_drop]
  have ht : (allB ep pss).take cut = allB ep (pss.take k) ++ (allB ep (pss.drop k)).take (cut - (allB ep (pss.take k)).length) := by
    rw [hs, List.take_append, List.take_of_length_le h1]
  rw [ht]
  have hok : ∀ p ∈ pss.take k, OkP p := fun p hp => h p (List.mem_of_mem_take hp)
  have hbd : ∀ x ∈ (allB ep (pss.drop k)).take (cut - (allB ep (pss.take k)).length), x < 256 := fun x hx => allB_byte ep _ (fun p hp => h p (List.mem_of_mem_drop hp)) x (List.mem_of_mem_take hx)
  refine scan_all ep he _ hbd ?_ _ hok
  rcases h2 with ⟨rfl, _⟩ | ⟨hlt, hc⟩
  · rw [List.drop_length, allB_nil, List.take_nil, one_nil]
    decide
  · have hd : pss.drop k = pss.getD k [] :: pss.drop (k + 1) := by
      rw [List.drop_eq_getElem_cons hlt, List.getD_eq_getElem?_getD, List.getElem?_eq_getElem hlt]
      rfl
    have hpk : OkP (pss.getD k []) := h _ (by rw [List.getD_eq_getElem?_getD, List.getElem?_eq_getElem hlt]; exact List.getElem_mem hlt)
    have htk : pss.take (k + 1) = pss.take k ++ [pss.getD k []] := by
      rw [List.take_add_one, List.getElem?_eq_getElem hlt, List.getD_eq_getElem?_getD, List.getElem?_eq_getElem hlt]
      rfl
    rw [htk, allB_append, List.length_append, allB_one] at hc
    rw [hd, allB_cons, List.take_append_of_le_length (by omega)]
    exact one_cut ep _ _ he hpk.1 hpk.2.1 hpk.2.2 (by omega)
/-- Where each record ends. -/
def endsL (ep : Nat) (pss : List (List Nat)) : List Nat := (List.range pss.length).map fun i => (allB ep (pss.take (i + 1))).length
theorem endsL_length (ep : Nat) (pss : List (List Nat)) : (endsL ep pss).length = pss.length := by simp [endsL]
theorem endsL_get (ep : Nat) (pss : List (List Nat)) (i : Nat) (hi : i < pss.length) : (endsL ep pss).getD i 0 = (allB ep (pss.take (i + 1))).length := by
  simp [endsL, List.getD_eq_getElem?_getD, hi]
theorem endsL_snoc (ep : Nat) (pss : List (List Nat)) (p : List Nat) : endsL ep (pss ++ [p]) = endsL ep pss ++ [(allB ep (pss ++ [p])).length] := by
  unfold endsL
  rw [List.length_append, List.length_singleton, List.range_succ, List.map_append]
  congr 1
  · refine List.map_congr_left fun i hi => ?_
    have hi' := List.mem_range.1 hi
    rw [List.take_append_of_le_length (by omega)]
  · rw [List.map_singleton, List.take_of_length_le (by simp)]
/-- Numbers as values; a row of numbers that the call has made. -/
def valsI (es : List Nat) : List Value := es.map fun (x : Nat) => .int .i64 (x : Int)
def OwnI (w : World) (base : Nat) (v : Value) (es : List Nat) : Prop := w.ownsRow base 3 1 v es.length (valsI es)
theorem infoI : (Tryz.prog.info? 3).map (fun i => (i.zero, i.size, i.bytes)) = some (some (.int .i64 0), 1, 8) := by kernel_rfl
theorem ownI_nil (w : World) (base : Nat) : OwnI w base (.slice none 0 0) [] := World.ownsRow_nil w base 3 1
theorem wpList_append_int (w : World) {ops : Array Oper} {rest : List Oper} {o : Oper} {act : Act} {Q : Exit → Act → World → Prop} (hgd : o.guard = none) (s x : Operand)
    (ho : o.op = .call { callee := .builtin .append, args := #[s, x], argTypes := #[41, 41] }) (base : Nat) (v : Value) (es : List Nat) (u : Nat) (hs : act.eval s = v) (hown : OwnI w base v es)
    (g : Nat) (hx : act.eval x = .slice (some ⟨g, 0, none⟩) 1 1) (hc : w.cell? ⟨g, 0, none⟩ = some (.int .i64 (u : Int))) (hb : es.length ≤ 10000000) (hbase : base ≤ w.heap.size)
    (hK : ∀ v' w', OwnI w' base v' (es ++ [u]) → w.grownBy w' v.ownBlock → wpList Tryz.prog ops Q rest (act.put o.dst v') w') : wpList Tryz.prog ops Q (o :: rest) act w :=
  wpList_plain hgd fun _ hK' => by
    obtain ⟨i0, hi, hz0, hz1, hz2⟩ := info_parts infoI
    obtain ⟨v', w', hr, h2, h3, _⟩ := run_append_own_at (P := Tryz.prog) w base 41 o.type 3 i0 (.int .i64 0) 1 8 Tryz.underlying41 hi hz0 hz1 hz2 rfl (by decide) v es.length (valsI es) hown ⟨g, 0, none⟩ 1 1 [.int .i64 (u : Int)] rfl (fun j u' hj => by
      match j, hj with
      | 0, hj => cases hj; rw [Addr.add_lit, Nat.add_zero]; exact hc) (fun y hy => by simp at hy; rw [hy]; rfl) (by unfold maxLen; omega) (by omega) hbase
    unfold Oper.wp execOp
    simp only [ho, resolve, invoke, builtin, Sem.run_bind, Sem.run_pure, Result.andThen_ok, List.map_toArray, List.map_cons, List.map_nil, hs, hx, hr]
    refine hK' _ _ (hK v' w' ?_ h3)
    unfold OwnI valsI
    rw [List.length_append, List.map_append]
    exact h2
/-- A row beside one of another type that grows. -/
theorem ownsRow_beside {w w' : World} {base t1 t2 s1 s2 n1 n2 : Nat} {v1 v2 : Value} {l1 l2 : List Value} (h1 : w.ownsRow base t1 s1 v1 n1 l1) (h2 : w.ownsRow base t2 s2 v2 n2 l2) (hne : t1 ≠ t2) (hg : w.grownBy w' v2.ownBlock) : w'.ownsRow base t1 s1 v1 n1 l1 := by
  refine ⟨h1.1, ?_⟩
  rcases h1.2 with e | ⟨g, cap, cur, e, k1, k2, k3⟩
  · exact .inl e
  · refine .inr ⟨g, cap, cur, e, k1, ?_, k3⟩
    refine (hg.block g (blk_lt k2) fun q => ?_).trans k2
    rcases h2.2 with ⟨e1, _⟩ | ⟨g', cap', cur', e1, _, g2, _⟩
    · rw [e1] at q; cases q
    · rw [e1] at q
      simp only [Value.ownBlock, Option.some.injEq] at q
      subst q
      rw [k2] at g2
      simp only [Option.some.injEq, Obj.cells.injEq] at g2
      exact hne g2.2.1
theorem OwnI.on {w w' : World} {base : Nat} {v : Value} {es : List Nat} (h : OwnI w base v es) (hb : Below w.heap.size w w') : OwnI w' base v es := by
  refine ⟨h.1, ?_⟩
  rcases h.2 with e | ⟨g, cap, cur, e, h1, h2, h3⟩
  · exact .inl e
  · exact .inr ⟨g, cap, cur, e, h1, (hb.block g (blk_lt h2)).trans h2, h3⟩
theorem OwnI.slice {w : World} {base : Nat} {v : Value} {es : List Nat} (h : OwnI w base v es) : ∃ a c, v = .slice a es.length c ∧ ∀ i, i < es.length → ∃ b o, a = some ⟨b, o, none⟩ ∧ w.cell? ⟨b, o + i, none⟩ = some (.int .i64 (es.getD i 0 : Nat)) := by
  rcases h.2 with ⟨e, e0⟩ | ⟨g, cap, cur, e, g1, g2, g3, g4, g5, g6⟩
  · refine ⟨none, 0, by rw [e, e0], fun i hi => by omega⟩
  · refine ⟨some ⟨g, 0, none⟩, cap, e, fun i hi => ⟨g, 0, rfl, ?_⟩⟩
    rw [Nat.zero_add]
    refine cell_of g2 ?_
    have hl : (valsI es).length = es.length := by simp [valsI]
    have hget : (valsI es)[i]? = some (.int .i64 (es.getD i 0 : Nat)) := by simp [valsI, List.getElem?_map, List.getElem?_eq_getElem hi, List.getD_eq_getElem?_getD]
    rw [← hget, ← g6, Nat.mul_one, List.getElem?_take_of_lt hi]
    simp
theorem below_growI {w0 w w' : World} {v : Value} {es : List Nat} (hb : Below w0.heap.size w0 w) (hown : OwnI w w0.heap.size v es) (hg : w.grownBy w' v.ownBlock) : Below w0.heap.size w0 w' :=
  hb.grown hg hb.size (fun k hk => (World.ownsRow.lt hown k hk).1)
/-- Slices of old bytes in a row of one's own. -/
theorem ownR_list {w W : World} {v : Value} {vs : List Value} {yss : List (List Nat)} (h : OwnR W w.heap.size v vs) (hb : Below w.heap.size w W) (hl : vs.length = yss.length) (hv : ∀ i, i < yss.length → ∃ a c, vs.getD i undef = .slice a (yss.getD i []).length c ∧ BytesIn w a (yss.getD i [])) :
    ∃ la lc, v = .slice la yss.length lc ∧ ListIn W la yss ∧ yss.length ≤ lc := by
  rcases h.2 with ⟨e, e0⟩ | ⟨g, cap, cur, e, g1, g2, g3, g4, g5, g6⟩
  · refine ⟨none, 0, ?_, fun i hi => ?_, by omega⟩
    · rw [e, ← hl, e0]
    · omega
  · refine ⟨some ⟨g, 0, none⟩, cap, by rw [e, hl], fun i hi => ⟨g, 0, rfl, ?_⟩, by omega⟩
    obtain ⟨a, c, ev, kb⟩ := hv i hi
    refine ⟨a, c, ?_, kb.on hb⟩
    rw [Nat.zero_add]
    refine cell_of g2 ?_
    have hiv : i < vs.length := by omega
    have hget : vs[i]? = some (vs.getD i undef) := by rw [List.getD_eq_getElem?_getD, List.getElem?_eq_getElem hiv]; rfl
    rw [← ev, ← hget, ← g6, Nat.mul_one, List.getElem?_take_of_lt hiv]
    simp
end Go.Proofs.YtjnhcanohefjiaaGreatDoor
