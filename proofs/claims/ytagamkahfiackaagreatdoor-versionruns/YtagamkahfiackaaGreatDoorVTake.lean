/- tree.takeAt: an element taken out of a node's items, of its children. -/
import Derived.Test.YtagamkahfiackaaGreatDoorVDelI
import Derived.Test.YtagamkahfiackaaGreatDoorVDelP
namespace Go.Proofs.YtagamkahfiackaaGreatDoor
open Go.RowKit Go.Sort

def itV (x : It) : Value := .agg #[.string x.1, .slice x.2.a x.2.n x.2.c]
/-- A node's items in their row. -/
theorem Store.item {w : World} {M : Nat → Option Nd} {q : Nat} {n : Nd} {I1 I2 : List It} {x : It} (h : Store w M) (hq : M q = some n) (hI : n.its = I1 ++ x :: I2) : ∃ g c, n.iv = .slice (some ⟨g, 0, none⟩) (I1.length + I2.length + 1) c ∧ g < w.heap.size ∧ w.cell? ⟨g, I1.length * 2, none⟩ = some (.string x.1) ∧ w.cell? ⟨g, I1.length * 2 + 1, none⟩ = some (.slice x.2.a x.2.n x.2.c) ∧ w.frozen? ⟨g, I1.length * 2, none⟩ = false ∧ w.frozen? ⟨g, I1.length * 2 + 1, none⟩ = false ∧ c ≤ 9223372036854775807 := by
  have hr := h.its q n hq
  have hl : n.its.length = I1.length + I2.length + 1 := by rw [hI]; simp; omega
  obtain ⟨g, c, cur, e, hg, hnc, hcm, hcs, hx⟩ := row_open hr (by omega)
  rw [hl] at e
  obtain ⟨c1, c2⟩ := cI_get n.its I1.length x (by rw [hI]; simp)
  have get : ∀ j u, (cI n.its)[j]? = some u → w.cell? ⟨g, j, none⟩ = some u := fun j u hj => by
    refine cell_of hg ?_
    rw [← hx, List.getElem?_take] at hj
    split at hj
    · simpa using hj
    · cases hj
  exact ⟨g, c, e, blk_lt hg, get _ _ c1, get _ _ c2, frozen_of hg, frozen_of hg, by unfold maxLen at hcm; omega⟩
theorem Store.kid {w : World} {M : Nat → Option Nd} {q : Nat} {n : Nd} {K1 K2 : List Nat} {p : Nat} (h : Store w M) (hq : M q = some n) (hK : n.ks = K1 ++ p :: K2) : ∃ g c, n.cv = .slice (some ⟨g, 0, none⟩) (K1.length + K2.length + 1) c ∧ g < w.heap.size ∧ w.cell? ⟨g, K1.length, none⟩ = some (pt p) ∧ w.frozen? ⟨g, K1.length, none⟩ = false ∧ c ≤ 9223372036854775807 := by
  have hr := h.ks q n hq
  have hl : n.ks.length = K1.length + K2.length + 1 := by rw [hK]; simp; omega
  obtain ⟨g, c, cur, e, hg, hnc, hcm, hcs, hx⟩ := row_open hr (by omega)
  rw [hl] at e
  have c1 := cP_get n.ks K1.length p (by rw [hK]; simp)
  refine ⟨g, c, e, blk_lt hg, ?_, frozen_of hg, by unfold maxLen at hcm; omega⟩
  refine cell_of hg ?_
  rw [← hx, List.getElem?_take] at c1
  split at c1
  · simpa using c1
  · cases c1
/-- What is left behind an element is taken out. -/
def TookI (w : World) (M : Nat → Option Nd) (q : Nat) (n : Nd) (x : It) (its : List It) (e : Ending) (w' : World) : Prop :=
  ∃ v', e = .returned (itV x) ∧ Store w' (upd M q { n with iv := v', its := its }) ∧ Ext (Own M) (Own (upd M q { n with iv := v', its := its })) w w'
def TookP (w : World) (M : Nat → Option Nd) (q : Nat) (n : Nd) (p : Nat) (ks : List Nat) (e : Ending) (w' : World) : Prop :=
  ∃ v', e = .returned (pt p) ∧ Store w' (upd M q { n with cv := v', ks := ks }) ∧ Ext (Own M) (Own (upd M q { n with cv := v', ks := ks })) w w'
theorem store_sl {w : World} {q o : Nat} {v : Value} {t : TypeId} {a : Option Addr} {n c : Nat} (hc : w.cell? ⟨q, o, none⟩ = some v) (hf : w.frozen? ⟨q, o, none⟩ = false) (hs : (sizeOf t).run Tryz.prog w = .ok 1 w) : (Instr.storeAt t (.pointer (some ⟨q, o, none⟩)) (.slice a n c)).run Tryz.prog w = .ok () (w.setCell ⟨q, o, none⟩ (.slice a n c)) := by
  simp only [Instr.storeAt, Instr.sureAddr, Sem.run_bind, Sem.run_pure, Result.andThen]
  simp [storeVar, hs, Value.cells, Result.andThen, storeCells, hc, hf, go_sem]
set_option maxRecDepth 100000 in
set_option maxHeartbeats 1000000 in
theorem takeP_ {w : World} {M : Nat → Option Nd} {q : Nat} {n : Nd} {K1 K2 : List Nat} {p : Nat} (h : Store w M) (hq : M q = some n) (hK : n.ks = K1 ++ p :: K2) (hn : n.ks.length ≤ 1000) :
    Calls Tryz.prog 86 #[.pointer (some ⟨q, 1, none⟩), .int .i64 K1.length] w (TookP w M q n p (K1 ++ K2)) := by
  obtain ⟨g, c, hcv, hgl, hp, hpf, hc63⟩ := h.kid hq hK
  obtain ⟨_, c1, _, f1⟩ := h.cells hq
  have hl : n.ks.length = K1.length + K2.length + 1 := by rw [hK]; simp; omega
  have HD : Hid (Calls Tryz.prog 69 #[.slice (some ⟨g, 0, none⟩) (K1.length + K2.length + 1) c, .int .i64 K1.length, .int .i64 ((K1.length : Int) + 1)] w fun e w1 => ∃ g' c', e = .returned (.slice (some ⟨g', 0, none⟩) (K1.length + K2.length) c') ∧ w1.cell? ⟨q, 1, none⟩ = some n.cv ∧ w1.frozen? ⟨q, 1, none⟩ = false ∧ Hid (TookP w M q n p (K1 ++ K2) (.returned (pt p)) (w1.setCell ⟨q, 1, none⟩ (.slice (some ⟨g', 0, none⟩) (K1.length + K2.length) c')))) := by
    have hd := delP_ (h.ks q n hq) (i := K1.length) (j := K1.length + 1) (by omega) (by omega) hn (cP_one _)
    rw [hcv, show ((K1.length + 1 : Nat) : Int) = (K1.length : Int) + 1 by omega] at hd
    refine hd.mono ?_
    rintro e w1 ⟨g', c', e1, rfl, hr, hg⟩
    have hnn : K1.length + (n.ks.length - (K1.length + 1)) = K1.length + K2.length := by omega
    rw [hnn] at hr ⊢
    rw [← hcv] at e1 hg
    have hr' : RowP w1 (.slice (some ⟨g', 0, none⟩) (K1.length + K2.length) c') (K1 ++ K2) := by
      unfold RowP
      rw [cP_take, cP_drop, ← cP_append, hK, List.take_left] at hr
      rw [show K1 ++ p :: K2 = (K1 ++ [p]) ++ K2 by simp, List.drop_left' (by simp)] at hr
      rw [List.length_append]
      exact hr
    obtain ⟨s1, s2⟩ := h.putC hq hg hr' (fun k e => by
      simp only [Value.ownBlock, Option.some.injEq] at e
      subst e
      exact .inl e1)
    have hb1 : w1.heap[q]? = w.heap[q]? := hg.block q (h.node_lt hq) fun e => by
      obtain ⟨cur, hc'⟩ := row_block (h.ks q n hq) e.symm
      exact kind_ne (h.blk q n hq) hc' (by decide) rfl
    have hb2 := hb1.trans (h.blk q n hq)
    exact ⟨g', c', rfl, cell_of hb2 rfl, frozen_of hb2, _, rfl, s1, s2⟩
  have w1 := wraps_i64 ((K1.length : Int) + 1) (by omega) (by omega)
  have hsz : ∀ W, (sizeOf 101).run Tryz.prog W = .ok 1 W := fun W => by kernel_rfl
  rw [hcv] at c1
  clear h hq hK hl hn
  generalize K1.length = k1 at *
  generalize K2.length = k2 at *
  unfold pt at hp
  go_enter Tryz.func86, Tryz.ntmps86
  go_wp2_with (first
    | (go_at_call 69; refine HD.out.mono ?_; rintro e V ⟨g', c', rfl, hv1, hv2, HT⟩)
    | fail)
  go_ret
  exact HT.out
/-- The blocks that a call has made for itself stay beside a store. -/
theorem Ext.mine {M M' : Nat → Option Nd} {w V V' : World} (h : Store w M) (hx : Ext (Own M) (Own M') V V') {k : Nat} {o : Obj} (hk : w.heap.size ≤ k) (ho : V.heap[k]? = some o) : V'.heap[k]? = some o ∧ ¬ Own M' k := hx.stays ho (h.not_own hk)
theorem Store.far {w : World} {M : Nat → Option Nd} (h : Store w M) {k o : Nat} {v : Value} (hk : ¬ Own M k) : Store (w.setCell ⟨k, o, none⟩ v) M := h.keep fun _ hj => heap_far _ fun e => hk (e ▸ hj)
theorem Ext.far {O O' : Nat → Prop} {w0 w : World} (h : Ext O O' w0 w) {k o : Nat} {v : Value} (hk : w0.heap.size ≤ k) : Ext O O' w0 (w.setCell ⟨k, o, none⟩ v) :=
  ⟨h.os, h.tape, h.output, by rw [size_set]; exact h.size, fun i hi hn => (heap_far _ (by omega)).trans (h.block i hi hn), h.new⟩
/-- Two blocks of a call's own. -/
theorem box2 (w : World) (A B : Obj) : ((w.alloc A).alloc B).heap[w.heap.size]? = some A ∧ ((w.alloc A).alloc B).heap[w.heap.size + 1]? = some B := by
  have hs : (w.alloc A).heap.size = w.heap.size + 1 := by simp
  refine ⟨?_, ?_⟩
  · rw [Below.heap_alloc _ _ _ (by rw [hs]; omega)]
    exact new_blk w A
  · rw [← hs]; exact new_blk _ _
set_option maxRecDepth 100000 in
set_option maxHeartbeats 1000000 in
theorem takeI_ {w : World} {M : Nat → Option Nd} {q : Nat} {n : Nd} {I1 I2 : List It} {x : It} (h : Store w M) (hq : M q = some n) (hI : n.its = I1 ++ x :: I2) (hn : n.its.length ≤ 1000) :
    Calls Tryz.prog 65 #[.pointer (some ⟨q, 0, none⟩), .int .i64 I1.length] w (TookI w M q n x (I1 ++ I2)) := by
  obtain ⟨g, c, hcv, hgl, hp, hp2, hpf, _, hc63⟩ := h.item hq hI
  obtain ⟨c1, _, f1, _⟩ := h.cells hq
  have hl : n.its.length = I1.length + I2.length + 1 := by rw [hI]; simp; omega
  have hql := h.node_lt hq
  have HD : Hid (∀ V, Below w.heap.size w V → V.heap[w.heap.size]? = some (.cells #[.string ⟨#[]⟩, .slice none 0 0] 99 (0, 0)) ∧ V.heap[w.heap.size + 1]? = some (.cells #[.string x.1, .slice x.2.a x.2.n x.2.c] 99 (0, 0)) → Calls Tryz.prog 71 #[.slice (some ⟨g, 0, none⟩) (I1.length + I2.length + 1) c, .int .i64 I1.length, .int .i64 ((I1.length : Int) + 1)] V fun e w1 => ∃ g' c' w2, e = .returned (.slice (some ⟨g', 0, none⟩) (I1.length + I2.length) c') ∧ (Instr.storeAt 100 (.pointer (some ⟨q, 0, none⟩)) (.slice (some ⟨g', 0, none⟩) (I1.length + I2.length) c')).run Tryz.prog w1 = .ok () w2 ∧ w2.cell? ⟨w.heap.size, 0, none⟩ = some (.string ⟨#[]⟩) ∧ w2.cell? ⟨w.heap.size, 1, none⟩ = some (.slice none 0 0) ∧ w2.frozen? ⟨w.heap.size, 0, none⟩ = false ∧ w2.frozen? ⟨w.heap.size, 1, none⟩ = false ∧ w2.cell? ⟨w.heap.size + 1, 0, none⟩ = some (.string x.1) ∧ w2.cell? ⟨w.heap.size + 1, 1, none⟩ = some (.slice x.2.a x.2.n x.2.c) ∧ Hid (TookI w M q n x (I1 ++ I2) (.returned (itV x)) ((w2.setCell ⟨w.heap.size, 0, none⟩ (.string x.1)).setCell ⟨w.heap.size, 1, none⟩ (.slice x.2.a x.2.n x.2.c)))) := by
    intro V hV hVb
    have h0 := h
    have h := h.on hV
    have hd := delI_ (h.its q n hq) (i := I1.length) (j := I1.length + 1) (by omega) (by omega) hn (cI_one _)
    rw [hcv, show ((I1.length + 1 : Nat) : Int) = (I1.length : Int) + 1 by omega] at hd
    refine hd.mono ?_
    rintro e w1 ⟨g', c', e1, rfl, hr, hg⟩
    have hnn : I1.length + (n.its.length - (I1.length + 1)) = I1.length + I2.length := by omega
    rw [hnn] at hr ⊢
    rw [← hcv] at e1 hg
    have hr' : RowI w1 (.slice (some ⟨g', 0, none⟩) (I1.length + I2.length) c') (I1 ++ I2) := by
      unfold RowI
      rw [cI_take, cI_drop, ← cI_append, hI, List.take_left] at hr
      rw [show I1 ++ x :: I2 = (I1 ++ [x]) ++ I2 by simp, List.drop_left' (by simp)] at hr
      rw [List.length_append]
      exact hr
    obtain ⟨s1, s2⟩ := h.putI hq hg hr' (fun k e => by
      simp only [Value.ownBlock, Option.some.injEq] at e
      subst e
      exact .inl e1)
    have hb1 : w1.heap[q]? = V.heap[q]? := hg.block q (h.node_lt hq) fun e => by
      obtain ⟨cur, hc'⟩ := row_block (h.its q n hq) e.symm
      exact kind_ne (h.blk q n hq) hc' (by decide) rfl
    have hb2 := hb1.trans (h.blk q n hq)
    obtain ⟨n1, n2⟩ := s2.mine h0 (Nat.le_refl _) hVb.1
    obtain ⟨n3, n4⟩ := s2.mine h0 (Nat.le_succ _) hVb.2
    refine ⟨g', c', _, rfl, store_sl (cell_of hb2 rfl) (frozen_of hb2) (by kernel_rfl), cell_of n1 rfl, cell_of n1 rfl, frozen_of n1, frozen_of n1, cell_of n3 rfl, cell_of n3 rfl, _, rfl, (s1.far n2).far n2, ?_⟩
    exact (((Ext.of_below _ hV).trans s2).far (Nat.le_refl _)).far (Nat.le_refl _)
  have w1 := wraps_i64 ((I1.length : Int) + 1) (by omega) (by omega)
  rw [hcv] at c1
  clear h hq hI hl hn
  generalize I1.length = k1 at *
  generalize I2.length = k2 at *
  go_enter Tryz.func65, Tryz.ntmps65
  go_wp2_with (first
    | (go_at_call 71; refine (HD.out _ (by (repeat (first | exact Below.refl _ _ | (refine Below.setCell ?_ (by simp) _) | (refine Below.alloc ?_ (by simp) _)))) (box2 _ _ _)).mono ?_; rintro e V ⟨g', c', w2, rfl, hst, d1, d2, d3, d4, d5, d6, HT⟩)
    | (refine wpList_store_at rfl _ _ _ rfl _ _ rfl rfl hst ?_)
    | fail)
  refine bodyPost_ret (v := itV x) ?_ rfl ?_
  · rw [results_cell rfl]
    go_simp
    rfl
  · exact HT.out
end Go.Proofs.YtagamkahfiackaaGreatDoor
