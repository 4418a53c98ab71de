/- Texts of one's own in a row of one's own. -/
import Derived.Test.YthaihallfjjnpaaTRight
import Derived.Test.YthaihallfjjnpaaTSure
import Derived.Test.YthaihallfjjnpaaTRow
namespace Go.Proofs.Ythaihallfjjnpaa
open Go.RowKit Go.Sort Go.Maps

theorem infoR : (Try.prog.info? 31).map (fun i => (i.zero, i.size, i.bytes)) = some (some (.slice none 0 0), 1, 24) := by kernel_rfl
/-- A row of texts. -/
def OwnR (w : World) (base : Nat) (v : Value) (vs : List Value) : Prop := w.ownsRow base 31 1 v vs.length vs
theorem step_append_row (w : World) {ops : Array Oper} {o : Oper} {act : Act} {K : Act → World → Prop} {Q : Exit → Act → World → Prop} {E : Prop} (hgd : o.guard = none) (s x : Operand)
    (ho : o.op = .call { callee := .builtin .append, args := #[s, x], argTypes := #[22, 22] }) (base : Nat) (v : Value) (vs : List Value) (u : Value) (hs : act.eval s = v) (hown : OwnR w base v vs)
    (g : Nat) (hx : act.eval x = .slice (some ⟨g, 0, none⟩) 1 1) (hc : w.cell? ⟨g, 0, none⟩ = some u) (hu : u.oneCell' = true) (hb : vs.length ≤ 1000000) (hbase : base ≤ w.heap.size)
    (hK : ∀ v' w', OwnR w' base v' (vs ++ [u]) → w.grownBy w' v.ownBlock → K (act.put o.dst v') w') : if Region.wanted o (yielded ops act.tmps) = true then Oper.wp Try.prog o act w K Q else E := by
  have hw : Region.wanted o (yielded ops act.tmps) = true := by simp [Region.wanted, hgd]
  rw [if_pos hw]
  obtain ⟨i0, hi, hz0, hz1, hz2⟩ := info_parts infoR
  obtain ⟨v', w', hr, h2, h3, _⟩ := run_append_own_at (P := Try.prog) w base 22 o.type 31 i0 (.slice none 0 0) 1 24 Try.underlying22 hi hz0 hz1 hz2 rfl (by decide) v vs.length vs hown ⟨g, 0, none⟩ 1 1 [u] rfl (fun j u' hj => by
    match j, hj with
    | 0, hj => cases hj; rw [Addr.add_lit, Nat.add_zero]; exact hc) (fun y hy => by simp at hy; rw [hy]; exact hu) (by unfold maxLen; omega) (by omega) hbase
  unfold Oper.wp execOp
  simp only [ho, resolve, invoke, builtin, Sem.run_bind, Sem.run_pure, Result.andThen_ok, List.map_toArray, List.map_cons, List.map_nil, hs, hx, hr]
  refine hK v' w' ?_ h3
  unfold OwnR
  rw [List.length_append]
  exact h2
theorem Own.keepBlk {w w' : World} {base : Nat} {v : Value} {xs : List Nat} (h : Own w base v xs) (hk : ∀ g, base ≤ g → g < w.heap.size → (∃ cur, w.heap[g]? = some (.cells cur 5 (0, 0))) → w'.heap[g]? = w.heap[g]?) : Own w' base v xs := by
  refine ⟨h.1, ?_⟩
  rcases h.2 with e | ⟨g, cap, cur, e, h1, h2, h3⟩
  · exact .inl e
  · exact .inr ⟨g, cap, cur, e, h1, (hk g h1 (blk_lt h2) ⟨_, h2⟩).trans h2, h3⟩
theorem OwnR.keepBlk {w w' : World} {base : Nat} {v : Value} {vs : List Value} (h : OwnR w base v vs) (hk : ∀ g, base ≤ g → g < w.heap.size → w'.heap[g]? = w.heap[g]?) : OwnR w' base v vs := by
  refine ⟨h.1, ?_⟩
  rcases h.2 with e | ⟨g, cap, cur, e, h1, h2, h3⟩
  · exact .inl e
  · exact .inr ⟨g, cap, cur, e, h1, (hk g h1 (blk_lt h2)).trans h2, h3⟩
/-- Texts of one's own in a row of one's own. -/
def LsI (w : World) (base : Nat) (v : Value) (yss : List (List Nat)) : Prop :=
  ∃ vs, OwnR w base v vs ∧ vs.length = yss.length ∧ ∀ i, i < yss.length → Own w base (vs.getD i undef) (yss.getD i []) ∧ (∀ x ∈ yss.getD i [], x < 256) ∧ (yss.getD i []).length ≤ 360
theorem lsI_nil (w : World) (base : Nat) : LsI w base (.slice none 0 0) [] := ⟨[], World.ownsRow_nil w base 31 1, rfl, fun i hi => by simp at hi⟩
theorem LsI.keepBlk {w w' : World} {base : Nat} {v : Value} {yss : List (List Nat)} (h : LsI w base v yss) (hk : ∀ g, base ≤ g → g < w.heap.size → w'.heap[g]? = w.heap[g]?) : LsI w' base v yss := by
  obtain ⟨vs, h1, h2, h3⟩ := h
  exact ⟨vs, h1.keepBlk hk, h2, fun i hi => ⟨(h3 i hi).1.keepBlk (fun g a b _ => hk g a b), (h3 i hi).2⟩⟩
theorem LsI.on {w w' : World} {base : Nat} {v : Value} {yss : List (List Nat)} (h : LsI w base v yss) (hb : Below w.heap.size w w') : LsI w' base v yss := h.keepBlk (fun g _ hg => hb.block g hg)
theorem LsI.fd {w w' : World} {base p aa bb : Nat} {v : Value} {yss : List (List Nat)} (h : LsI w base v yss) (hf : Fd p aa bb w w') (hp : p < base ∧ aa < base ∧ bb < base) : LsI w' base v yss :=
  h.keepBlk (fun g h1 hg => hf.block g hg (by omega) (by omega) (by omega))
theorem LsI.slice {w : World} {base : Nat} {v : Value} {yss : List (List Nat)} (h : LsI w base v yss) : ∃ la lc, v = .slice la yss.length lc ∧ ListIn w la yss := by
  obtain ⟨vs, h1, h2, h3⟩ := h
  rcases h1.2 with ⟨e, e0⟩ | ⟨g, cap, cur, e, g1, g2, g3, g4, g5, g6⟩
  · refine ⟨none, 0, ?_, fun i hi => ?_⟩
    · rw [e, ← h2, e0]
    · omega
  · refine ⟨some ⟨g, 0, none⟩, cap, by rw [e, h2], fun i hi => ⟨g, 0, rfl, ?_⟩⟩
    obtain ⟨k1, k2, _⟩ := h3 i hi
    obtain ⟨a, c, ev, kb, _⟩ := k1.bytes
    refine ⟨a, c, ?_, kb, k2⟩
    rw [Nat.zero_add]
    refine cell_of g2 ?_
    have hiv : i < vs.length := by omega
    have hget : vs[i]? = some (vs.getD i undef) := by rw [List.getD_eq_getElem?_getD, List.getElem?_eq_getElem hiv]; rfl
    rw [← ev, ← hget, ← g6, Nat.mul_one, List.getElem?_take_of_lt hiv]
    simp
/-- One text more. -/
theorem LsI.snoc {w w' : World} {base : Nat} {v v' u : Value} {vs : List Value} {yss : List (List Nat)} {ys : List Nat} (hr : OwnR w base v vs) (hl : vs.length = yss.length) (h3 : ∀ i, i < yss.length → Own w base (vs.getD i undef) (yss.getD i []) ∧ (∀ x ∈ yss.getD i [], x < 256) ∧ (yss.getD i []).length ≤ 360)
    (hu : Own w base u ys) (hy : ∀ x ∈ ys, x < 256) (h360 : ys.length ≤ 360) (hr' : OwnR w' base v' (vs ++ [u])) (hg : w.grownBy w' v.ownBlock) : LsI w' base v' (yss ++ [ys]) := by
  have hkeep : ∀ {z : Value} {zs : List Nat}, Own w base z zs → Own w' base z zs := fun hz => hz.keepBlk (fun g _ hlt ⟨cur, hcur⟩ => hg.block g hlt (fun e => by
    rcases hr.2 with ⟨e1, _⟩ | ⟨g', cap, cur', e1, _, g2, _⟩
    · rw [e1] at e; cases e
    · rw [e1] at e
      simp only [Value.ownBlock, Option.some.injEq] at e
      subst e
      rw [hcur] at g2
      simp only [Option.some.injEq, Obj.cells.injEq] at g2
      exact absurd g2.2.1 (by decide)))
  refine ⟨vs ++ [u], hr', by simp [hl], fun i hi => ?_⟩
  rw [List.length_append, List.length_singleton] at hi
  rcases Nat.lt_or_ge i yss.length with h | h
  · have e1 : (vs ++ [u]).getD i undef = vs.getD i undef := by rw [List.getD_eq_getElem?_getD, List.getD_eq_getElem?_getD, List.getElem?_append_left (by omega)]
    have e2 : (yss ++ [ys]).getD i [] = yss.getD i [] := by rw [List.getD_eq_getElem?_getD, List.getD_eq_getElem?_getD, List.getElem?_append_left (by omega)]
    rw [e1, e2]
    exact ⟨hkeep (h3 i h).1, (h3 i h).2⟩
  · obtain rfl : i = yss.length := by omega
    have e1 : (vs ++ [u]).getD yss.length undef = u := by rw [← hl]; simp
    have e2 : (yss ++ [ys]).getD yss.length [] = ys := by simp
    rw [e1, e2]
    exact ⟨hkeep hu, hy, h360⟩
/-- The device, the area and the texts, as the law's walk goes on. -/
structure WhI (w : World) (bx : Nat) (lv : Value) (yss : List (List Nat)) (dv : Dev) (K : Nat) (wr : World) : Prop where
  bw : Below w.heap.size w wr
  ar : ArAt wr bx (arS 6)
  lo : w.heap.size + 2 < bx
  dev : DevIn wr (w.heap.size + 2) w.heap.size (w.heap.size + 1) dv K
  ls : LsI wr (bx + 1) lv yss
theorem WhI.on {w wr V : World} {bx : Nat} {lv : Value} {yss : List (List Nat)} {dv : Dev} {K : Nat} (h : WhI w bx lv yss dv K wr) (hb : Below wr.heap.size wr V) : WhI w bx lv yss dv K V :=
  ⟨below_step h.bw hb, h.ar.on hb, h.lo, h.dev.on hb, h.ls.on hb⟩
theorem WhI.work {w wr V : World} {bx : Nat} {lv : Value} {yss : List (List Nat)} {dv dv' : Dev} {K K' : Nat} (h : WhI w bx lv yss dv K wr) (hd : DevIn V (w.heap.size + 2) w.heap.size (w.heap.size + 1) dv' K') (hf : Fd (w.heap.size + 2) w.heap.size (w.heap.size + 1) wr V) : WhI w bx lv yss dv' K' V := by
  have hlo := h.lo
  exact ⟨h.bw.trans (hf.below h.bw.size (by omega) (by omega) (by omega)), hf.ar h.ar (by omega) (by omega) (by omega), h.lo, hd, h.ls.fd hf (by omega)⟩
theorem WhI.area {w wr : World} {bx : Nat} {lv : Value} {yss : List (List Nat)} {dv : Dev} {K : Nat} (h : WhI w bx lv yss dv K wr) : wr.cell? ⟨bx, 0, none⟩ = some (.int .i64 0) ∧ wr.cell? ⟨bx, 1, none⟩ = some (.int .i64 0) ∧ wr.cell? ⟨bx, 2, none⟩ = some (.int .i64 12) := h.ar.cells
end Go.Proofs.Ythaihallfjjnpaa
