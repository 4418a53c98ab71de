/- Items appended to a row of one's own. -/
import Derived.Test.YtnkdhipeklphaaaDoorHAll2
import Derived.Test.YtnkdhipeklphaaaDoorHSure
import Derived.Deep.RegionHeldLaw
import Derived.Deep.AppendLies
import Derived.Lib.AppendStr
namespace Go.Proofs.YtnkdhipeklphaaaDoor
open Go.RowKit Go.Sort

/-- A row of the document's items that the call has made. -/
def OwnI (w : World) (base : Nat) (v : Value) (r : List Sl) : Prop := w.ownsRow base 40 2 v r.length (itC r)
theorem info40 : (Tryd.prog.info? 40).map (fun i => (i.zero, i.size, i.bytes)) = some (some (.agg #[.int .i64 0, .int .i64 0]), 2, 16) := by kernel_rfl
theorem ownI_nil (w : World) (base : Nat) : OwnI w base (.slice none 0 0) [] := World.ownsRow_nil w base 40 2
theorem OwnI.on {w w' : World} {base : Nat} {v : Value} {r : List Sl} (h : OwnI w base v r) (hb : Below w.heap.size w w') : OwnI w' base v r := owns_on h hb
theorem itemsIn_nil (w : World) (a : Option Addr) : ItemsIn w a [] := fun i hi => by simp at hi
theorem ItemsIn.news {w : World} {ad : Addr} {r : List Sl} (h : ItemsIn w (some ad) r) : ∀ j u, (itC r)[j]? = some u → w.cell? (ad.add j) = some u := by
  intro j u hj
  have hjl : j < (itC r).length := by
    rcases Nat.lt_or_ge j (itC r).length with hl | hl
    · exact hl
    · rw [List.getElem?_eq_none hl] at hj; cases hj
  rw [itC_len] at hjl
  have hi : j / 2 < r.length := by omega
  obtain ⟨b, o, e, h1, h2⟩ := h (j / 2) hi
  cases e
  rw [Addr.add_lit]
  rcases (by omega : j = j / 2 * 2 ∨ j = j / 2 * 2 + 1) with e | e
  · have := (itC_at r (j / 2) hi).1
    rw [← e, hj] at this
    rw [← e] at h1
    rw [h1, ← Option.some.inj this]
  · have := (itC_at r (j / 2) hi).2
    rw [← e, hj] at this
    rw [show o + j / 2 * 2 + 1 = o + j by omega] at h2
    rw [h2, ← Option.some.inj this]
theorem itC_one (r : List Sl) : ∀ u ∈ itC r, u.oneCell' = true := by
  induction r with
  | nil => intro u hu; simp [itC] at hu
  | cons x r ih =>
    intro u hu
    simp only [itC, List.mem_cons] at hu
    rcases hu with rfl | rfl | hu
    · rfl
    · rfl
    · exact ih u hu
theorem items_none {w : World} {r : List Sl} (h : ItemsIn w none r) : r = [] := by
  cases r with
  | nil => rfl
  | cons y ys => obtain ⟨_, _, hh, _⟩ := h 0 (by simp); cases hh
theorem ownI_join {w : World} {base : Nat} {v : Value} {xs ys : List Sl} (h : w.ownsRow base 40 2 v (xs.length + ys.length) (itC xs ++ itC ys)) : OwnI w base v (xs ++ ys) := by
  unfold OwnI
  rw [← itC_append, List.length_append]
  exact h
/-- append(row, items...), at the operation. -/
theorem wp_append_items (w : World) {o : Oper} {act : Act} {K : Act → World → Prop} {Q : Exit → Act → World → Prop} (s x : Operand)
    (ho : o.op = .call { callee := .builtin .append, args := #[s, x], argTypes := #[25, 25] }) (base : Nat) (v : Value) (es ys : List Sl) (hs : act.eval s = v) (hown : OwnI w base v es)
    (a : Option Addr) (m c' : Nat) (hx : act.eval x = .slice a m c') (hm : ys.length = m) (hnil : a = none → c' = 0) (hin : ItemsIn w a ys) (hlen : es.length + ys.length ≤ 4000000) (hbase : base ≤ w.heap.size)
    (hK : ∀ v' w', OwnI w' base v' (es ++ ys) → w.grownBy w' v.ownBlock → K (act.put o.dst v') w') : o.wp Tryd.prog act w K Q := by
  obtain ⟨i0, hi, hz0, hz1, hz2⟩ := info_parts info40
  subst hm
  cases a with
  | none =>
    obtain rfl := items_none hin
    obtain rfl := hnil rfl
    have hrun := run_append_owned_none (P := Tryd.prog) w base 25 o.type 40 i0 2 Tryd.underlying25 hi _ _ _ hown
    unfold Oper.wp
    simp only [List.length_nil] at hx
    simp [execOp, ho, resolve, invoke, builtin, hs, hx, hrun, Result.andThen]
    have := hK v w (by rw [List.append_nil]; exact hown) ⟨rfl, rfl, rfl, Nat.le_refl _, fun _ _ _ => rfl⟩
    exact this
  | some ad =>
    obtain ⟨v', w', hr, h2, h3, _⟩ := run_append_own_at (P := Tryd.prog) w base 25 o.type 40 i0 (.agg #[.int .i64 0, .int .i64 0]) 2 16 Tryd.underlying25 hi hz0 hz1 hz2 rfl (by decide) v es.length (itC es) hown ad ys.length c' (itC ys) (by rw [itC_len]) hin.news (itC_one ys) (by unfold maxLen; omega) (by omega) hbase
    unfold Oper.wp execOp
    simp only [ho, resolve, invoke, builtin, Sem.run_bind, Sem.run_pure, Result.andThen_ok, List.map_toArray, List.map_cons, List.map_nil, hs, hx, hr]
    exact hK v' w' (ownI_join h2) h3
theorem below_own {N : Nat} {w0 w w' : World} {v : Value} {es : List Sl} (hN : N ≤ w0.heap.size) (hb : Below N w0 w) (hown : OwnI w N v es) (hg : w.grownBy w' v.ownBlock) : Below N w0 w' :=
  hb.grown hg (Nat.le_trans hN hb.size) (fun k hk => (World.ownsRow.lt hown k hk).1)
/-- The same in a region that draws its order. -/
theorem step_append_items (N : Nat) (w w0 : World) {ops : Array Oper} {o : Oper} {act : Act} {K : Act → World → Prop} {Q : Exit → Act → World → Prop} {E : Prop} (hgd : o.guard = none) (s x : Operand)
    (ho : o.op = .call { callee := .builtin .append, args := #[s, x], argTypes := #[25, 25] }) (v : Value) (es ys : List Sl) (hs : act.eval s = v) (hown : OwnI w N v es)
    (a : Option Addr) (m c : Nat) (hx : act.eval x = .slice a m c) (hm : ys.length = m) (hnil : a = none → c = 0) (hin : ItemsIn w a ys) (hlen : es.length + ys.length ≤ 4000000) (hN : N ≤ w0.heap.size) (hb : Below N w0 w)
    (hK : ∀ v' w', OwnI w' N v' (es ++ ys) → Below N w0 w' → (∀ p : Addr, p.block < w.heap.size → some p.block ≠ v.ownBlock → w'.cell? p = w.cell? p) → K (act.put o.dst v') w') : if Region.wanted o (yielded ops act.tmps) = true then Oper.wp Tryd.prog o act w K Q else E := by
  have hw : Region.wanted o (yielded ops act.tmps) = true := by simp [Region.wanted, hgd]
  rw [if_pos hw]
  exact wp_append_items w s x ho N v es ys hs hown a m c hx hm hnil hin hlen (Nat.le_trans hN hb.size) fun v' w' h1 h2 => hK v' w' h1 (below_own hN hb hown h2) (fun p hp hne => h2.cell_far p hp hne)
/-- The same at a plain region's list. -/
theorem wpList_append_items (N : Nat) (w w0 : World) {ops : Array Oper} {rest : List Oper} {o : Oper} {act : Act} {Q : Exit → Act → World → Prop} (hgd : o.guard = none) (s x : Operand)
    (ho : o.op = .call { callee := .builtin .append, args := #[s, x], argTypes := #[25, 25] }) (v : Value) (es ys : List Sl) (hs : act.eval s = v) (hown : OwnI w N v es)
    (a : Option Addr) (m c : Nat) (hx : act.eval x = .slice a m c) (hm : ys.length = m) (hnil : a = none → c = 0) (hin : ItemsIn w a ys) (hlen : es.length + ys.length ≤ 4000000) (hN : N ≤ w0.heap.size) (hb : Below N w0 w)
    (hK : ∀ v' w', OwnI w' N v' (es ++ ys) → Below N w0 w' → wpList Tryd.prog ops Q rest (act.put o.dst v') w') : wpList Tryd.prog ops Q (o :: rest) act w :=
  wpList_plain hgd fun _ hK' => wp_append_items w s x ho N v es ys hs hown a m c hx hm hnil hin hlen (Nat.le_trans hN hb.size) fun v' w' h1 h2 => hK' _ _ (hK v' w' h1 (below_own hN hb hown h2))
/-- A list of the document's in memory. -/
def Lst (w : World) (v : Value) (r : List Sl) : Prop := ∃ a c, v = .slice a r.length c ∧ ItemsIn w a r ∧ r.length ≤ c ∧ c ≤ maxLen ∧ ((a = none ∧ c = 0) ∨ ∃ b o cs z, a = some ⟨b, o, none⟩ ∧ w.heap[b]? = some (.cells cs 40 z))
theorem OwnI.lst {w : World} {base : Nat} {v : Value} {r : List Sl} (h : OwnI w base v r) : Lst w v r := by
  rcases h.2 with ⟨rfl, e⟩ | ⟨g, cap, cur, rfl, _, hg, h3, h4, _, ht⟩
  · have : r = [] := List.eq_nil_of_length_eq_zero e
    subst this
    exact ⟨none, 0, rfl, fun i hi => by simp at hi, Nat.le_refl _, by unfold maxLen; omega, .inl ⟨rfl, rfl⟩⟩
  · refine ⟨_, _, rfl, fun i hi => ⟨g, 0, rfl, ?_, ?_⟩, h3, h4, .inr ⟨g, 0, _, _, rfl, hg⟩⟩
    · have := (itC_at r i hi).1
      rw [← ht, List.getElem?_take_of_lt (by omega), Array.getElem?_toList] at this
      rw [Nat.zero_add]; exact cell_of hg this
    · have := (itC_at r i hi).2
      rw [← ht, List.getElem?_take_of_lt (by omega), Array.getElem?_toList] at this
      rw [Nat.zero_add]; exact cell_of hg this
theorem Lst.on {w w' : World} {v : Value} {r : List Sl} (h : Lst w v r) (hb : Below w.heap.size w w') : Lst w' v r := by
  obtain ⟨a, c, e, h1, h2, h3, h4⟩ := h
  refine ⟨a, c, e, h1.on hb, h2, h3, ?_⟩
  rcases h4 with h4 | ⟨b, o, cs, z, e, h4⟩
  · exact .inl h4
  · exact .inr ⟨b, o, cs, z, e, (hb.block b (blk_lt h4)).trans h4⟩
/-- A list of the document's stays while the queue is written. -/
theorem Lst.fq {N : Nat} {w w' : World} {v : Value} {r : List Sl} (h : Lst w v r) (hf : FQ N w w') : Lst w' v r := by
  obtain ⟨a, c, e, h1, h2, h3, h4⟩ := h
  rcases h4 with ⟨rfl, rfl⟩ | ⟨b, o, cs, z, rfl, h4⟩
  · obtain rfl : r = [] := List.eq_nil_of_length_eq_zero (by omega)
    exact ⟨none, 0, e, fun i hi => by simp at hi, h2, h3, .inl ⟨rfl, rfl⟩⟩
  · have hk := (hf.keep b cs _ z h4 (by decide) (by decide) (by decide)).trans h4
    refine ⟨_, c, e, fun i hi => ?_, h2, h3, .inr ⟨b, o, cs, z, rfl, hk⟩⟩
    obtain ⟨b', o', e', k1, k2⟩ := h1 i hi
    cases e'
    have hbl : w'.heap[b]? = w.heap[b]? := hk.trans h4.symm
    exact ⟨b, o, rfl, (World.cell?_of_block hbl).trans k1, (World.cell?_of_block hbl).trans k2⟩
theorem ItemsIn.take {w : World} {a : Option Addr} {r : List Sl} (h : ItemsIn w a r) (k : Nat) : ItemsIn w a (r.take k) := by
  intro i hi
  have hi' : i < r.length := by rw [List.length_take] at hi; omega
  obtain ⟨b, o, e, h1, h2⟩ := h i hi'
  exact ⟨b, o, e, by rw [List.getElem_take]; exact h1, by rw [List.getElem_take]; exact h2⟩
/-- What lies from a place on. -/
theorem ItemsIn.drop {w : World} {b o : Nat} {r : List Sl} (h : ItemsIn w (some ⟨b, o, none⟩) r) (k : Nat) : ItemsIn w (some ⟨b, o + k * 2, none⟩) (r.drop k) := by
  intro i hi
  have hi' : k + i < r.length := by rw [List.length_drop] at hi; omega
  obtain ⟨b', o', e, h1, h2⟩ := h (k + i) hi'
  cases e
  refine ⟨b, o + k * 2, rfl, ?_, ?_⟩
  · rw [List.getElem_drop, show o + k * 2 + i * 2 = o + (k + i) * 2 by omega]; exact h1
  · rw [List.getElem_drop, show o + k * 2 + i * 2 + 1 = o + (k + i) * 2 + 1 by omega]; exact h2
theorem one_item (w : World) (x : Sl) (xi xr : Int) (h : x.id = xi ∧ x.rank = xr) (t : TypeId) : ItemsIn (w.alloc (.cells #[.int .i64 xi, .int .i64 xr] t)) (some ⟨w.heap.size, 0, none⟩) [x] := by
  intro i hi
  simp at hi
  subst hi
  exact ⟨w.heap.size, 0, rfl, by simp [h.1], by simp [h.2]⟩
theorem one_item_far {w w1 : World} {x : Sl} {xi xr : Int} {t : TypeId} (h : x.id = xi ∧ x.rank = xr) (hf : ∀ p : Addr, p.block < (w.alloc (.cells #[.int .i64 xi, .int .i64 xr] t)).heap.size → some p.block ≠ (Value.slice none 0 0).ownBlock → w1.cell? p = (w.alloc (.cells #[.int .i64 xi, .int .i64 xr] t)).cell? p) : ItemsIn w1 (some ⟨w.heap.size, 0, none⟩) [x] := by
  intro i hi
  obtain ⟨b, o, e, h1, h2⟩ := one_item w x xi xr h t i hi
  simp at hi
  subst hi
  cases e
  exact ⟨_, _, rfl, (hf _ (by simp) (fun e => by cases e)).trans h1, (hf _ (by simp) (fun e => by cases e)).trans h2⟩
end Go.Proofs.YtnkdhipeklphaaaDoor
