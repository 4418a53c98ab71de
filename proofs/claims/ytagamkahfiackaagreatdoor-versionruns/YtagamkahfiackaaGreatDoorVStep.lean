/- Steps on a node's items and children. -/
import Derived.Test.YtagamkahfiackaaGreatDoorVNode
import Derived.Test.YtagamkahfiackaaGreatDoorVPh
import Derived.Test.YtagamkahfiackaaGreatDoorVInsI
import Derived.Test.YtagamkahfiackaaGreatDoorVInsP
namespace Go.Proofs.YtagamkahfiackaaGreatDoor
open Go.RowKit Go.Sort

/-- Insert into a node's items, and what is stored then. -/
def PutI (V : World) (M : Nat → Option Nd) (q : Nat) (n : Nd) (l : List It) (v' : Value) (V1 : World) : Prop :=
  ∃ a m c V2, v' = .slice a m c ∧ (Instr.storeAt 100 (.pointer (some ⟨q, 0, none⟩)) (.slice a m c)).run Tryz.prog V1 = .ok () V2 ∧ Store V2 (upd M q { n with iv := .slice a m c, its := l }) ∧ Ext (Own M) (Own (upd M q { n with iv := .slice a m c, its := l })) V V2
theorem putI_of {V V1 : World} {M : Nat → Option Nd} {q : Nat} {n : Nd} {l : List It} {a : Option Addr} {m c : Nat} (h : Store V M) (hq : M q = some n) (hg : V.grownBy V1 n.iv.ownBlock) (hr : RowI V1 (.slice a m c) l) (hv : Gone n.iv (.slice a m c) V.heap.size) : PutI V M q n l (.slice a m c) V1 := by
  obtain ⟨s1, s2⟩ := h.putI hq hg hr hv
  have hb1 : V1.heap[q]? = V.heap[q]? := hg.block q (h.node_lt hq) fun e => by
    obtain ⟨cur, hc'⟩ := row_block (h.its q n hq) e.symm
    exact kind_ne (h.blk q n hq) hc' (by decide) rfl
  have hb2 := hb1.trans (h.blk q n hq)
  exact ⟨a, m, c, _, rfl, store_sl (cell_of hb2 rfl) (frozen_of hb2) (by kernel_rfl), s1, s2⟩
theorem insI_node {V : World} {M : Nat → Option Nd} {q : Nat} {n : Nd} {l1 l2 : List It} {x : It} (h : Store V M) (hq : M q = some n) (hl : n.its = l1 ++ l2) (hn : n.its.length ≤ 1000) {b : Nat} (hb : V.heap[b]? = some (.cells (cI [x]).toArray 99 (0, 0))) (hbo : ¬ Own M b) :
    Calls Tryz.prog 66 #[n.iv, .int .i64 l1.length, .slice (some ⟨b, 0, none⟩) 1 1] V fun e V1 => ∃ v', e = .returned v' ∧ PutI V M q n (l1 ++ x :: l2) v' V1 := by
  have hd := insI_ (h.its q n hq) (i := l1.length) (by rw [hl]; simp) hn b hb (by rfl) (cI_one _) (cI_one _) (fun e => hbo ⟨q, n, hq, .inr (.inl e)⟩)
  refine hd.mono ?_
  rintro e V1 ⟨g, c, rfl, hr, hg, hv⟩
  have ec : (cI n.its).take (l1.length * 2) ++ (cI [x] ++ (cI n.its).drop (l1.length * 2)) = cI (l1 ++ x :: l2) := by
    rw [cI_take, cI_drop, ← cI_append, ← cI_append, hl, List.take_left, List.drop_left]; rfl
  rw [ec, show n.its.length + 1 = (l1 ++ x :: l2).length by rw [hl]; simp; omega] at hr
  rw [show n.its.length + 1 = (l1 ++ x :: l2).length by rw [hl]; simp; omega]
  refine ⟨_, rfl, putI_of h hq hg hr fun k e => ?_⟩
  simp only [Value.ownBlock, Option.some.injEq] at e
  subst e
  exact hv
theorem delI_node {V : World} {M : Nat → Option Nd} {q : Nat} {n : Nd} {l1 l2 l3 : List It} (h : Store V M) (hq : M q = some n) (hl : n.its = l1 ++ (l2 ++ l3)) (h2 : l2 ≠ []) (hn : n.its.length ≤ 1000) :
    Calls Tryz.prog 71 #[n.iv, .int .i64 l1.length, .int .i64 (l1.length + l2.length : Nat)] V fun e V1 => ∃ v', e = .returned v' ∧ PutI V M q n (l1 ++ l3) v' V1 := by
  have hp : 0 < l2.length := List.length_pos_iff.2 h2
  have hd := delI_ (h.its q n hq) (i := l1.length) (j := l1.length + l2.length) (by omega) (by rw [hl]; simp) hn (cI_one _)
  refine hd.mono ?_
  rintro e V1 ⟨g, c, hv, rfl, hr, hg⟩
  have ec : (cI n.its).take (l1.length * 2) ++ (cI n.its).drop ((l1.length + l2.length) * 2) = cI (l1 ++ l3) := by
    rw [cI_take, cI_drop, ← cI_append, hl, List.take_left, ← List.append_assoc, List.drop_left' (by simp)]
  rw [ec, show l1.length + (n.its.length - (l1.length + l2.length)) = (l1 ++ l3).length by rw [hl]; simp; omega] at hr
  rw [show l1.length + (n.its.length - (l1.length + l2.length)) = (l1 ++ l3).length by rw [hl]; simp; omega]
  refine ⟨_, rfl, putI_of h hq hg hr fun k e => ?_⟩
  simp only [Value.ownBlock, Option.some.injEq] at e
  subst e
  exact .inl hv
/-- append to a node's items what lies in another row. -/
theorem appI_run {V : World} {M : Nat → Option Nd} {q : Nat} {n : Nd} {xs : List It} (h : Store V M) (hq : M q = some n) (hn : n.its.length + xs.length ≤ 1000) (ad : Addr) (c : Nat) (hs : ∀ j u, (cI xs)[j]? = some u → V.cell? (ad.add j) = some u) (ty : TypeId) :
    ∃ v' V1, (Builtin.append_ #[100, 100] ty #[n.iv, .slice (some ad) xs.length c]).run Tryz.prog V = .ok v' V1 ∧ V.grownBy V1 n.iv.ownBlock ∧ PutI V M q n (n.its ++ xs) v' V1 := by
  obtain ⟨i0, hi0, hz0, hz1, hz2⟩ := info_parts infoVI
  obtain ⟨v', V1, hr, h2, h3, _, h5⟩ := run_append_own_at (P := Tryz.prog) V 0 100 ty 99 i0 _ 2 40 Tryz.underlying100 hi0 hz0 hz1 hz2 rfl (by decide) _ n.its.length _ (h.its q n hq) ad xs.length c (cI xs) (cI_len xs) hs (cI_one _) (by unfold maxLen; omega) (by omega) (Nat.zero_le _)
  obtain ⟨a, c', rfl, _⟩ := row_shape h2
  refine ⟨_, V1, hr, h3, putI_of h hq h3 ?_ fun k e => ?_⟩
  · unfold RowI
    rw [List.length_append, cI_append]
    exact h2
  · rcases h5 with e5 | e5
    · exact .inl (by rw [← e5]; exact e)
    · rw [e5] at e; cases e; exact .inr (Nat.le_refl _)
theorem run_buildI (w : World) (x : It) (a : Act) (o : Oper) (y : Operand) (h : o.op = .buildSlice 100 1 #[(0, y)]) (hy : a.eval y = itV x) : (execOp a.eval o).run Tryz.prog w = .ok (.value (.slice (some ⟨w.heap.size, 0, none⟩) 1 1)) (w.alloc (.cells (cI [x]).toArray 99)) := by
  unfold execOp
  simp only [h, List.map_toArray, List.map_cons, List.map_nil, hy]
  simp [Instr.buildSlice, go_sem, itV, cI]
/-- Insert into a node's children, and what is stored then. -/
def PutP (V : World) (M : Nat → Option Nd) (q : Nat) (n : Nd) (l : List Nat) (v' : Value) (V1 : World) : Prop :=
  ∃ a m c V2, v' = .slice a m c ∧ (Instr.storeAt 101 (.pointer (some ⟨q, 1, none⟩)) (.slice a m c)).run Tryz.prog V1 = .ok () V2 ∧ Store V2 (upd M q { n with cv := .slice a m c, ks := l }) ∧ Ext (Own M) (Own (upd M q { n with cv := .slice a m c, ks := l })) V V2
theorem putP_of {V V1 : World} {M : Nat → Option Nd} {q : Nat} {n : Nd} {l : List Nat} {a : Option Addr} {m c : Nat} (h : Store V M) (hq : M q = some n) (hg : V.grownBy V1 n.cv.ownBlock) (hr : RowP V1 (.slice a m c) l) (hv : Gone n.cv (.slice a m c) V.heap.size) : PutP V M q n l (.slice a m c) V1 := by
  obtain ⟨s1, s2⟩ := h.putC hq hg hr hv
  have hb1 : V1.heap[q]? = V.heap[q]? := hg.block q (h.node_lt hq) fun e => by
    obtain ⟨cur, hc'⟩ := row_block (h.ks q n hq) e.symm
    exact kind_ne (h.blk q n hq) hc' (by decide) rfl
  have hb2 := hb1.trans (h.blk q n hq)
  exact ⟨a, m, c, _, rfl, store_sl (cell_of hb2 rfl) (frozen_of hb2) (by kernel_rfl), s1, s2⟩
theorem insP_node {V : World} {M : Nat → Option Nd} {q : Nat} {n : Nd} {l1 l2 : List Nat} {x : Nat} (h : Store V M) (hq : M q = some n) (hl : n.ks = l1 ++ l2) (hn : n.ks.length ≤ 1000) {b : Nat} (hb : V.heap[b]? = some (.cells (cP [x]).toArray 82 (0, 0))) (hbo : ¬ Own M b) :
    Calls Tryz.prog 70 #[n.cv, .int .i64 l1.length, .slice (some ⟨b, 0, none⟩) 1 1] V fun e V1 => ∃ v', e = .returned v' ∧ PutP V M q n (l1 ++ x :: l2) v' V1 := by
  have hd := insP_ (h.ks q n hq) (i := l1.length) (by rw [hl]; simp) hn b hb (by rfl) (cP_one _) (cP_one _) (fun e => hbo ⟨q, n, hq, .inr (.inr e)⟩)
  refine hd.mono ?_
  rintro e V1 ⟨g, c, rfl, hr, hg, hv⟩
  have ec : (cP n.ks).take (l1.length * 1) ++ (cP [x] ++ (cP n.ks).drop (l1.length * 1)) = cP (l1 ++ x :: l2) := by
    rw [cP_take, cP_drop, ← cP_append, ← cP_append, hl, List.take_left, List.drop_left]; rfl
  rw [ec, show n.ks.length + 1 = (l1 ++ x :: l2).length by rw [hl]; simp; omega] at hr
  rw [show n.ks.length + 1 = (l1 ++ x :: l2).length by rw [hl]; simp; omega]
  refine ⟨_, rfl, putP_of h hq hg hr fun k e => ?_⟩
  simp only [Value.ownBlock, Option.some.injEq] at e
  subst e
  exact hv
theorem delP_node {V : World} {M : Nat → Option Nd} {q : Nat} {n : Nd} {l1 l2 l3 : List Nat} (h : Store V M) (hq : M q = some n) (hl : n.ks = l1 ++ (l2 ++ l3)) (h2 : l2 ≠ []) (hn : n.ks.length ≤ 1000) :
    Calls Tryz.prog 69 #[n.cv, .int .i64 l1.length, .int .i64 (l1.length + l2.length : Nat)] V fun e V1 => ∃ v', e = .returned v' ∧ PutP V M q n (l1 ++ l3) v' V1 := by
  have hp : 0 < l2.length := List.length_pos_iff.2 h2
  have hd := delP_ (h.ks q n hq) (i := l1.length) (j := l1.length + l2.length) (by omega) (by rw [hl]; simp) hn (cP_one _)
  refine hd.mono ?_
  rintro e V1 ⟨g, c, hv, rfl, hr, hg⟩
  have ec : (cP n.ks).take (l1.length * 1) ++ (cP n.ks).drop ((l1.length + l2.length) * 1) = cP (l1 ++ l3) := by
    rw [cP_take, cP_drop, ← cP_append, hl, List.take_left, ← List.append_assoc, List.drop_left' (by simp)]
  rw [ec, show l1.length + (n.ks.length - (l1.length + l2.length)) = (l1 ++ l3).length by rw [hl]; simp; omega] at hr
  rw [show l1.length + (n.ks.length - (l1.length + l2.length)) = (l1 ++ l3).length by rw [hl]; simp; omega]
  refine ⟨_, rfl, putP_of h hq hg hr fun k e => ?_⟩
  simp only [Value.ownBlock, Option.some.injEq] at e
  subst e
  exact .inl hv
/-- append to a node's children what lies in another row. -/
theorem appP_run {V : World} {M : Nat → Option Nd} {q : Nat} {n : Nd} {xs : List Nat} (h : Store V M) (hq : M q = some n) (hn : n.ks.length + xs.length ≤ 1000) (ad : Addr) (c : Nat) (hs : ∀ j u, (cP xs)[j]? = some u → V.cell? (ad.add j) = some u) (ty : TypeId) :
    ∃ v' V1, (Builtin.append_ #[101, 101] ty #[n.cv, .slice (some ad) xs.length c]).run Tryz.prog V = .ok v' V1 ∧ V.grownBy V1 n.cv.ownBlock ∧ PutP V M q n (n.ks ++ xs) v' V1 := by
  obtain ⟨i0, hi0, hz0, hz1, hz2⟩ := info_parts infoVP
  obtain ⟨v', V1, hr, h2, h3, _, h5⟩ := run_append_own_at (P := Tryz.prog) V 0 101 ty 82 i0 _ 1 8 Tryz.underlying101 hi0 hz0 hz1 hz2 rfl (by decide) _ n.ks.length _ (h.ks q n hq) ad xs.length c (cP xs) (cP_len xs) hs (cP_one _) (by unfold maxLen; omega) (by omega) (Nat.zero_le _)
  obtain ⟨a, c', rfl, _⟩ := row_shape h2
  refine ⟨_, V1, hr, h3, putP_of h hq h3 ?_ fun k e => ?_⟩
  · unfold RowP
    rw [List.length_append, cP_append]
    exact h2
  · rcases h5 with e5 | e5
    · exact .inl (by rw [← e5]; exact e)
    · rw [e5] at e; cases e; exact .inr (Nat.le_refl _)
theorem run_buildP (w : World) (x : Nat) (a : Act) (o : Oper) (y : Operand) (h : o.op = .buildSlice 101 1 #[(0, y)]) (hy : a.eval y = pt x) : (execOp a.eval o).run Tryz.prog w = .ok (.value (.slice (some ⟨w.heap.size, 0, none⟩) 1 1)) (w.alloc (.cells (cP [x]).toArray 82)) := by
  unfold execOp
  simp only [h, List.map_toArray, List.map_cons, List.map_nil, hy]
  simp [Instr.buildSlice, go_sem, pt, cP]
end Go.Proofs.YtagamkahfiackaaGreatDoor
