/- Values appended to a row of one's own: at a drawn region; and what stays beside it. -/
import Derived.Test.YtlldamgnfaikhaaGreatDoorRwMem
import Derived.Deep.RegionHeld3
namespace Go.Proofs.YtlldamgnfaikhaaGreatDoor
open Go.RowKit Go.Sort

/-- append(row, values...), at the operation. -/
theorem wp_append_vals (w : World) {o : Oper} {act : Act} {K : Act → World → Prop} {Q : Exit → Act → World → Prop} (s x : Operand)
    (ho : o.op = .call { callee := .builtin .append, args := #[s, x], argTypes := #[25, 25] }) (base : Nat) (v : Value) (es ys : List Val) (hs : act.eval s = v) (hown : OwnV w base v es)
    (b oo m c' : Nat) (hx : act.eval x = .slice (some ⟨b, oo, none⟩) m c') (hm : ys.length = m) (hin : ValsIn w (some ⟨b, oo, none⟩) ys) (hlen : (es.length + ys.length) * 40 ≤ 140737488355328) (hbase : base ≤ w.heap.size)
    (hK : ∀ v' w', OwnV w' base v' (es ++ ys) → w.grownBy w' v.ownBlock → (v'.ownBlock = v.ownBlock ∨ v'.ownBlock = some w.heap.size) → K (act.put o.dst v') w') : o.wp Tryz.prog act w K Q := by
  obtain ⟨i0, hi, hz0, hz1, hz2⟩ := info_parts infoV
  subst hm
  obtain ⟨v', w', hr, h2, h3, _, h5⟩ := run_append_own_at (P := Tryz.prog) w base 25 o.type 44 i0 (.agg #[.int .i64 0, .int .i64 0, .string ⟨#[]⟩, .bool false]) 4 40 Tryz.underlying25 hi hz0 hz1 hz2 rfl (by decide) v es.length (valCells es) hown ⟨b, oo, none⟩ ys.length c' (valCells ys) (valCells_len ys) (valNews hin) (valCells_one ys) (by unfold maxLen; omega) (by omega) hbase
  unfold Oper.wp execOp
  simp only [ho, resolve, invoke, builtin, Sem.run_bind, Sem.run_pure, Result.andThen_ok, List.map_toArray, List.map_cons, List.map_nil, hs, hx, hr]
  exact hK v' w' (ownV_join rfl rfl h2) h3 h5
/-- The same at a step of a region that draws its order. -/
theorem step_append_vals (w : World) {ops : Array Oper} {o : Oper} {act : Act} {K : Act → World → Prop} {Q : Exit → Act → World → Prop} {E : Prop} (hgd : o.guard = none) (s x : Operand)
    (ho : o.op = .call { callee := .builtin .append, args := #[s, x], argTypes := #[25, 25] }) (base : Nat) (v : Value) (es ys : List Val) (hs : act.eval s = v) (hown : OwnV w base v es)
    (b oo m c' : Nat) (hx : act.eval x = .slice (some ⟨b, oo, none⟩) m c') (hm : ys.length = m) (hin : ValsIn w (some ⟨b, oo, none⟩) ys) (hlen : (es.length + ys.length) * 40 ≤ 140737488355328) (hbase : base ≤ w.heap.size)
    (hK : ∀ v' w', OwnV w' base v' (es ++ ys) → w.grownBy w' v.ownBlock → (v'.ownBlock = v.ownBlock ∨ v'.ownBlock = some w.heap.size) → K (act.put o.dst v') w') : if Region.wanted o (yielded ops act.tmps) = true then Oper.wp Tryz.prog o act w K Q else E := by
  have hw : Region.wanted o (yielded ops act.tmps) = true := by simp [Region.wanted, hgd]
  rw [if_pos hw]
  exact wp_append_vals w s x ho base v es ys hs hown b oo m c' hx hm hin hlen hbase hK
/-- The same at a plain region's list. -/
theorem wpList_append_vals2 (w : World) {ops : Array Oper} {rest : List Oper} {o : Oper} {act : Act} {Q : Exit → Act → World → Prop} (hgd : o.guard = none) (s x : Operand)
    (ho : o.op = .call { callee := .builtin .append, args := #[s, x], argTypes := #[25, 25] }) (base : Nat) (v : Value) (es ys : List Val) (hs : act.eval s = v) (hown : OwnV w base v es)
    (b oo m c' : Nat) (hx : act.eval x = .slice (some ⟨b, oo, none⟩) m c') (hm : ys.length = m) (hin : ValsIn w (some ⟨b, oo, none⟩) ys) (hlen : (es.length + ys.length) * 40 ≤ 140737488355328) (hbase : base ≤ w.heap.size)
    (hK : ∀ v' w', OwnV w' base v' (es ++ ys) → w.grownBy w' v.ownBlock → (v'.ownBlock = v.ownBlock ∨ v'.ownBlock = some w.heap.size) → wpList Tryz.prog ops Q rest (act.put o.dst v') w') : wpList Tryz.prog ops Q (o :: rest) act w :=
  wpList_plain hgd fun _ hK' => wp_append_vals w s x ho base v es ys hs hown b oo m c' hx hm hin hlen hbase fun v' w' h1 h2 h3 => hK' _ _ (hK v' w' h1 h2 h3)
theorem OwnV.lt {w : World} {base : Nat} {v : Value} {vs : List Val} (h : OwnV w base v vs) : ∀ k, v.ownBlock = some k → base ≤ k ∧ k < w.heap.size := fun k hk => World.ownsRow.lt h k hk
/-- A row of values stays where another one grows. -/
theorem OwnV.grown {w w' : World} {base : Nat} {v u : Value} {vs : List Val} (h : OwnV w base v vs) (hg : w.grownBy w' u.ownBlock) (hne : ∀ k, v.ownBlock = some k → u.ownBlock ≠ some k) : OwnV w' base v vs := by
  refine ⟨h.1, ?_⟩
  rcases h.2 with h1 | ⟨g, cap, cur, e, h1, h2, h3, h4, h5, h6⟩
  · exact .inl h1
  · have hlt : g < w.heap.size := by
      rcases Nat.lt_or_ge g w.heap.size with hl | hl
      · exact hl
      · rw [Array.getElem?_eq_none hl] at h2; cases h2
    exact .inr ⟨g, cap, cur, e, h1, (hg.block g hlt (fun hh => hne g (by rw [e]; rfl) hh.symm)).trans h2, h3, h4, h5, h6⟩
end Go.Proofs.YtlldamgnfaikhaaGreatDoor
