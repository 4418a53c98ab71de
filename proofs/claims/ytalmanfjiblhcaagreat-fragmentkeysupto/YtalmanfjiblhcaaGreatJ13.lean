/- Steps on a node's items and children; node.splitChild. -/
import Derived.Test.YtalmanfjiblhcaaGreatJ11
import Derived.Test.YtalmanfjiblhcaaGreatJ6
import Derived.Test.YtalmanfjiblhcaaGreatJ12
namespace Go.Proofs.YtalmanfjiblhcaaGreat
open Go.RowKit Go.Sort
def PutI (V : World) (M : Nat → Option Nd) (q : Nat) (n : Nd) (l : List It) (v' : Value) (V1 : World) : Prop :=
 ∃ a m c V2, v' = .slice a m c ∧ (Instr.storeAt 201 (.pointer (some ⟨q, 0, none⟩)) (.slice a m c)).run Tryz.prog V1 = .ok () V2 ∧ Store V2 (upd M q { n with iv := .slice a m c, its := l }) ∧ Ext (Own M) (Own (upd M q { n with iv := .slice a m c, its := l })) V V2
theorem putI_of {V V1 : World} {M : Nat → Option Nd} {q : Nat} {n : Nd} {l : List It} {a : Option Addr} {m c : Nat} (h : Store V M) (hq : M q = some n) (hg : V.grownBy V1 n.iv.ownBlock) (hr : RowI V1 (.slice a m c) l) (hv : Gone n.iv (.slice a m c) V.heap.size) : PutI V M q n l (.slice a m c) V1 := by
 obtain ⟨s1, s2⟩ := h.putI hq hg hr hv
 have hb1 : V1.heap[q]? = V.heap[q]? := hg.block q (h.node_lt hq) fun e => by
  obtain ⟨cur, hc'⟩ := row_block (h.its q n hq) e.symm
  exact kind_ne (h.blk q n hq) hc' (by decide) rfl
 have hb2 := hb1.trans (h.blk q n hq)
 exact ⟨a, m, c, _, rfl, store_sl (cell_of hb2 rfl) (frozen_of hb2) (by kernel_rfl), s1, s2⟩
theorem insI_node {V : World} {M : Nat → Option Nd} {q : Nat} {n : Nd} {l1 l2 : List It} {x : It} (h : Store V M) (hq : M q = some n) (hl : n.its = l1 ++ l2) (hn : n.its.length ≤ 1000) {b : Nat} (hb : V.heap[b]? = some (.cells (cI [x]).toArray 200 (0, 0))) (hbo : ¬ Own M b) :
 Calls Tryz.prog 140 #[n.iv, .int .i64 l1.length, .slice (some ⟨b, 0, none⟩) 1 1] V fun e V1 => ∃ v', e = .returned v' ∧ PutI V M q n (l1 ++ x :: l2) v' V1 := by
 have hd := insI_ (h.its q n hq) (i := l1.length) (by rw [hl]; simp) hn b hb (by rfl) (cI_one _) (cI_one _) (fun e => hbo ⟨q, n, hq, .inr (.inl e)⟩)
 refine hd.mono ?_
 rintro e V1 ⟨g, c, rfl, hr, hg, hv⟩
 have ec : (cI n.its).take (l1.length * 2) ++ (cI [x] ++ (cI n.its).drop (l1.length * 2)) = cI (l1 ++ x :: l2) := by
  rw [cI_take, cI_drop, ← cI_append, ← cI_append, hl, List.take_left, List.drop_left]; rfl
 rw [ec, show n.its.length + 1 = (l1 ++ x :: l2).length by rw [hl]; simp; omega] at hr
 rw [show n.its.length + 1 = (l1 ++ x :: l2).length by rw [hl]; simp; omega]
 refine ⟨_, rfl, putI_of h hq hg hr fun k e => ?_⟩
 simp only [Value.ownBlock, Option.some.injEq] at e
 subst e
 exact hv
theorem delI_node {V : World} {M : Nat → Option Nd} {q : Nat} {n : Nd} {l1 l2 l3 : List It} (h : Store V M) (hq : M q = some n) (hl : n.its = l1 ++ (l2 ++ l3)) (h2 : l2 ≠ []) (hn : n.its.length ≤ 1000) :
 Calls Tryz.prog 145 #[n.iv, .int .i64 l1.length, .int .i64 (l1.length + l2.length : Nat)] V fun e V1 => ∃ v', e = .returned v' ∧ PutI V M q n (l1 ++ l3) v' V1 := by
 have hp : 0 < l2.length := List.length_pos_iff.2 h2
 have hd := delI_ (h.its q n hq) (i := l1.length) (j := l1.length + l2.length) (by omega) (by rw [hl]; simp) hn (cI_one _)
 refine hd.mono ?_
 rintro e V1 ⟨g, c, hv, rfl, hr, hg⟩
 have ec : (cI n.its).take (l1.length * 2) ++ (cI n.its).drop ((l1.length + l2.length) * 2) = cI (l1 ++ l3) := by
  rw [cI_take, cI_drop, ← cI_append, hl, List.take_left, ← List.append_assoc, List.drop_left' (by simp)]
 rw [ec, show l1.length + (n.its.length - (l1.length + l2.length)) = (l1 ++ l3).length by rw [hl]; simp; omega] at hr
 rw [show l1.length + (n.its.length - (l1.length + l2.length)) = (l1 ++ l3).length by rw [hl]; simp; omega]
 refine ⟨_, rfl, putI_of h hq hg hr fun k e => ?_⟩
 simp only [Value.ownBlock, Option.some.injEq] at e
 subst e
 exact .inl hv
theorem run_buildI (w : World) (x : It) (a : Act) (o : Oper) (y : Operand) (h : o.op = .buildSlice 201 1 #[(0, y)]) (hy : a.eval y = itV x) : (execOp a.eval o).run Tryz.prog w = .ok (.value (.slice (some ⟨w.heap.size, 0, none⟩) 1 1)) (w.alloc (.cells (cI [x]).toArray 200)) := by
 unfold execOp
 simp only [h, List.map_toArray, List.map_cons, List.map_nil, hy]
 simp [Instr.buildSlice, go_sem, itV, cI]
def PutP (V : World) (M : Nat → Option Nd) (q : Nat) (n : Nd) (l : List Nat) (v' : Value) (V1 : World) : Prop :=
 ∃ a m c V2, v' = .slice a m c ∧ (Instr.storeAt 202 (.pointer (some ⟨q, 1, none⟩)) (.slice a m c)).run Tryz.prog V1 = .ok () V2 ∧ Store V2 (upd M q { n with cv := .slice a m c, ks := l }) ∧ Ext (Own M) (Own (upd M q { n with cv := .slice a m c, ks := l })) V V2
theorem putP_of {V V1 : World} {M : Nat → Option Nd} {q : Nat} {n : Nd} {l : List Nat} {a : Option Addr} {m c : Nat} (h : Store V M) (hq : M q = some n) (hg : V.grownBy V1 n.cv.ownBlock) (hr : RowP V1 (.slice a m c) l) (hv : Gone n.cv (.slice a m c) V.heap.size) : PutP V M q n l (.slice a m c) V1 := by
 obtain ⟨s1, s2⟩ := h.putC hq hg hr hv
 have hb1 : V1.heap[q]? = V.heap[q]? := hg.block q (h.node_lt hq) fun e => by
  obtain ⟨cur, hc'⟩ := row_block (h.ks q n hq) e.symm
  exact kind_ne (h.blk q n hq) hc' (by decide) rfl
 have hb2 := hb1.trans (h.blk q n hq)
 exact ⟨a, m, c, _, rfl, store_sl (cell_of hb2 rfl) (frozen_of hb2) (by kernel_rfl), s1, s2⟩
theorem insP_node {V : World} {M : Nat → Option Nd} {q : Nat} {n : Nd} {l1 l2 : List Nat} {x : Nat} (h : Store V M) (hq : M q = some n) (hl : n.ks = l1 ++ l2) (hn : n.ks.length ≤ 1000) {b : Nat} (hb : V.heap[b]? = some (.cells (cP [x]).toArray 196 (0, 0))) (hbo : ¬ Own M b) :
 Calls Tryz.prog 144 #[n.cv, .int .i64 l1.length, .slice (some ⟨b, 0, none⟩) 1 1] V fun e V1 => ∃ v', e = .returned v' ∧ PutP V M q n (l1 ++ x :: l2) v' V1 := by
 have hd := insP_ (h.ks q n hq) (i := l1.length) (by rw [hl]; simp) hn b hb (by rfl) (cP_one _) (cP_one _) (fun e => hbo ⟨q, n, hq, .inr (.inr e)⟩)
 refine hd.mono ?_
 rintro e V1 ⟨g, c, rfl, hr, hg, hv⟩
 have ec : (cP n.ks).take (l1.length * 1) ++ (cP [x] ++ (cP n.ks).drop (l1.length * 1)) = cP (l1 ++ x :: l2) := by
  rw [cP_take, cP_drop, ← cP_append, ← cP_append, hl, List.take_left, List.drop_left]; rfl
 rw [ec, show n.ks.length + 1 = (l1 ++ x :: l2).length by rw [hl]; simp; omega] at hr
 rw [show n.ks.length + 1 = (l1 ++ x :: l2).length by rw [hl]; simp; omega]
 refine ⟨_, rfl, putP_of h hq hg hr fun k e => ?_⟩
 simp only [Value.ownBlock, Option.some.injEq] at e
 subst e
 exact hv
theorem delP_node {V : World} {M : Nat → Option Nd} {q : Nat} {n : Nd} {l1 l2 l3 : List Nat} (h : Store V M) (hq : M q = some n) (hl : n.ks = l1 ++ (l2 ++ l3)) (h2 : l2 ≠ []) (hn : n.ks.length ≤ 1000) :
 Calls Tryz.prog 143 #[n.cv, .int .i64 l1.length, .int .i64 (l1.length + l2.length : Nat)] V fun e V1 => ∃ v', e = .returned v' ∧ PutP V M q n (l1 ++ l3) v' V1 := by
 have hp : 0 < l2.length := List.length_pos_iff.2 h2
 have hd := delP_ (h.ks q n hq) (i := l1.length) (j := l1.length + l2.length) (by omega) (by rw [hl]; simp) hn (cP_one _)
 refine hd.mono ?_
 rintro e V1 ⟨g, c, hv, rfl, hr, hg⟩
 have ec : (cP n.ks).take (l1.length * 1) ++ (cP n.ks).drop ((l1.length + l2.length) * 1) = cP (l1 ++ l3) := by
  rw [cP_take, cP_drop, ← cP_append, hl, List.take_left, ← List.append_assoc, List.drop_left' (by simp)]
 rw [ec, show l1.length + (n.ks.length - (l1.length + l2.length)) = (l1 ++ l3).length by rw [hl]; simp; omega] at hr
 rw [show l1.length + (n.ks.length - (l1.length + l2.length)) = (l1 ++ l3).length by rw [hl]; simp; omega]
 refine ⟨_, rfl, putP_of h hq hg hr fun k e => ?_⟩
 simp only [Value.ownBlock, Option.some.injEq] at e
 subst e
 exact .inl hv
theorem run_buildP (w : World) (x : Nat) (a : Act) (o : Oper) (y : Operand) (h : o.op = .buildSlice 202 1 #[(0, y)]) (hy : a.eval y = pt x) : (execOp a.eval o).run Tryz.prog w = .ok (.value (.slice (some ⟨w.heap.size, 0, none⟩) 1 1)) (w.alloc (.cells (cP [x]).toArray 196)) := by
 unfold execOp
 simp only [h, List.map_toArray, List.map_cons, List.map_nil, hy]
 simp [Instr.buildSlice, go_sem, pt, cP]
end Go.Proofs.YtalmanfjiblhcaaGreat
namespace Go.Proofs.YtalmanfjiblhcaaGreat
open Go.RowKit Go.Sort
theorem wpList_exec {P : Program} {ops : Array Oper} {rest : List Oper} {o : Oper} {a : Act} {w w' : World} {v : Value} {Q : Exit → Act → World → Prop} (hgd : o.guard = none) (hr : (execOp a.eval o).run P w = .ok (.value v) w') (h : wpList P ops Q rest (a.put o.dst v) w') : wpList P ops Q (o :: rest) a w :=
 wpList_plain hgd fun _ hK => by
  unfold Oper.wp
  rw [hr]
  exact hK _ _ h
theorem run_boxN (w : World) (a : Act) (o : Oper) (y : Operand) (u1 u2 : Value) (h : o.op = .box 204 y) (hy : a.eval y = .agg #[u1, u2]) : (execOp a.eval o).run Tryz.prog w = .ok (.value (.pointer (some ⟨w.heap.size, 0, none⟩))) (w.alloc (.cells #[u1, u2] 204)) := by
 unfold execOp
 simp only [h, hy]
 simp [Instr.box, newVar, newObj, go_sem, Value.cells]
 rfl
structure Split (w : World) (M : Nat → Option Nd) (q c r : Nat) (its : List It) (ks : List Nat) (J1 : List It) (C1 : List Nat) (J2 : List It) (C2 : List Nat) (w' : World) (M' : Nat → Option Nd) : Prop where
 st : Store w' M'
 ext : Ext (Own M) (Own M') w w'
 new : w.heap.size ≤ r
 atq : ∃ n', M' q = some n' ∧ n'.its = its ∧ n'.ks = ks
 atc : ∃ n', M' c = some n' ∧ n'.its = J1 ∧ n'.ks = C1
 atr : ∃ n', M' r = some n' ∧ n'.its = J2 ∧ n'.ks = C2
 rest : ∀ k, k ≠ q → k ≠ c → k ≠ r → M' k = M k
def SplitTo (w : World) (M : Nat → Option Nd) (q c : Nat) (its : List It) (K1 K2 : List Nat) (J1 : List It) (C1 : List Nat) (J2 : List It) (C2 : List Nat) (e : Ending) (w' : World) : Prop :=
 e = .returned (.tuple #[]) ∧ ∃ M' r, Split w M q c r its (K1 ++ c :: r :: K2) J1 C1 J2 C2 w' M'
set_option maxRecDepth 100000 in
set_option maxHeartbeats 2000000 in
theorem split_leaf {w : World} {M : Nat → Option Nd} {q c : Nat} {n nc : Nd} {I1 I2 : List It} {K1 K2 : List Nat} {J1 J2 : List It} {y : It} (h : Store w M) (hq : M q = some n) (hc : M c = some nc) (hqc : q ≠ c)
 (hI : n.its = I1 ++ I2) (hK : n.ks = K1 ++ c :: K2) (hIK : I1.length = K1.length) (hn : n.its.length ≤ 1000) (hn2 : n.ks.length ≤ 1000) (hJ : nc.its = J1 ++ y :: J2) (hJ1 : J1.length = 4) (hJ2 : J2.length = 3) (hks : nc.ks = []) :
 Calls Tryz.prog 116 #[.pointer (some ⟨q, 0, none⟩), .int .i64 I1.length] w (SplitTo w M q c (I1 ++ y :: I2) K1 K2 J1 [] J2 []) := by
 obtain ⟨gq, cq, hqcv, hgq, hkc, _, hcq63⟩ := h.kid hq hK
 obtain ⟨gc, cc, hciv, hgc, hy1, hy2, _, _, hcc63⟩ := h.item hc hJ
 obtain ⟨ac, ccc, hccv, _⟩ := row_shape (h.ks c nc hc)
 obtain ⟨aq, cqi, hqiv, _⟩ := row_shape (h.its q n hq)
 obtain ⟨q0, q1, _, _⟩ := h.cells hq
 obtain ⟨c0, c1, _, _⟩ := h.cells hc
 rw [hks] at hccv
 rw [hqcv, ← hIK] at q1
 rw [hciv, hJ1, hJ2] at c0
 rw [hccv] at c1
 rw [← hIK] at hkc
 rw [hJ1] at hy1 hy2
 have hnl : n.its.length = I1.length + I2.length := by rw [hI]; simp
 have hkl : n.ks.length = I1.length + K2.length + 1 := by rw [hK, hIK]; simp; omega
 have hql := h.node_lt hq
 have hcl := h.node_lt hc
 have hrow : RowI w (.slice (some ⟨gc, 0, none⟩) 8 cc) nc.its := by have := h.its c nc hc; rw [hciv, hJ1, hJ2] at this; exact this
 have hJl : nc.its.length = 8 := by rw [hJ]; simp; omega
 have hcc5 : ¬ cc = 5 := by
  obtain ⟨_, _, e, _, _, h8, _⟩ := row_shape hrow
  simp only [Value.slice.injEq] at e
  omega
 have hsrc : ∀ j u, (cI J2)[j]? = some u → w.cell? ⟨gc, 10 + j, none⟩ = some u := fun j u hj => by
  unfold RowI at hrow
  rw [hJl] at hrow
  have hjl : j < (cI J2).length := (List.getElem?_eq_some_iff.1 hj).1
  rw [cI_len, hJ2] at hjl
  rw [hrow.cellAt (10 + j) (by omega), hJ, show J1 ++ y :: J2 = (J1 ++ [y]) ++ J2 by simp, cI_append, List.getElem?_append_right (by rw [cI_len]; simp; omega), cI_len, ← hj]
  congr 1
  simp; omega
 have HC : Hid (Calls Tryz.prog 141 #[.slice (some ⟨gc, 10, none⟩) 3 (cc - 5)] w fun e V1 => ∃ g1 c1 r W1, e = .returned (.slice (some ⟨g1, 0, none⟩) 3 c1) ∧ Hid (∀ (a : Act) (o : Oper) (y : Operand), o.op = .box 204 y → a.eval y = .agg #[.slice (some ⟨g1, 0, none⟩) 3 c1, .slice none 0 0] → (execOp a.eval o).run Tryz.prog V1 = .ok (.value (.pointer (some ⟨r, 0, none⟩))) W1) ∧ W1.cell? ⟨c, 1, none⟩ = some (.slice ac 0 ccc) ∧ Hid (w.heap.size ≤ r ∧ Store W1 (upd M r ⟨J2, [], .slice (some ⟨g1, 0, none⟩) 3 c1, .slice none 0 0⟩) ∧ Ext (Own M) (Own (upd M r ⟨J2, [], .slice (some ⟨g1, 0, none⟩) 3 c1, .slice none 0 0⟩)) w W1)) := by
  refine (cloI_ gc 10 3 (cc - 5) (cI J2) (by omega) (by omega) (by rw [cI_len, hJ2]) hsrc (cI_one _)).mono ?_
  rintro e V1 ⟨g1, c1, hg1, rfl, hr1, hb1⟩
  have hbl := below_step hb1 (below_alloc V1 (.cells #[.slice (some ⟨g1, 0, none⟩) 3 c1, .slice none 0 0] 204))
  refine ⟨g1, c1, V1.heap.size, V1.alloc (.cells #[.slice (some ⟨g1, 0, none⟩) 3 c1, .slice none 0 0] 204), rfl, fun a o y h1 h2 => run_boxN V1 a o y _ _ h1 h2, ?_, hb1.size, ?_⟩
  · have := (h.on hbl).cells hc
    rw [this.2.1, hccv]; rfl
  · refine h.add (n := ⟨J2, [], .slice (some ⟨g1, 0, none⟩) 3 c1, .slice none 0 0⟩) hbl hb1.size (new_blk _ _) ?_ (World.ownsRow_nil _ _ _ _) (fun k e => ?_) (fun k e => by cases e)
    · unfold RowI
      rw [hJ2]
      exact row_on hr1 (below_alloc _ _)
    · simp only [Value.ownBlock, Option.some.injEq] at e
      omega
 have w1 := wraps_i64 ((I1.length : Int) + 1) (by omega) (by omega)
 have H0 := Lib.hid h
 have HQ := Lib.hid hq
 have HCC := Lib.hid hc
 have hk1 : ((I1.length : Int) + 1) = ((K1 ++ [c]).length : Nat) := by simp; omega
 have HK1 := Lib.hid hk1
 have HIV : Hid (nc.iv = .slice (some ⟨gc, 0, none⟩) 8 cc) := by show nc.iv = _; rw [hciv, hJ1, hJ2]
 have HCV := Lib.hid hqcv
 clear h hq hc hrow hsrc hk1 hciv hqcv hy1 hy2
 have hqi : (I1.length : Int) < (I1.length : Int) + (K2.length : Int) + 1 := by omega
 obtain ⟨i1, hi1⟩ : ∃ i1, i1 = I1.length := ⟨_, rfl⟩
 obtain ⟨k2, hk2⟩ : ∃ k2, k2 = K2.length := ⟨_, rfl⟩
 have HI1 := Lib.hid hi1
 rw [← hi1] at hkc q1 w1 hqi HK1 hnl hkl ⊢
 rw [← hk2] at q1 hqi hkl
 unfold pt at hkc
 have HCV2 : Hid (n.cv = .slice (some ⟨gq, 0, none⟩) (i1 + k2 + 1) cq) := by show _ = _; rw [HCV.out, hi1, hk2, hIK]
 have HP := Lib.hid (And.intro hI (And.intro hK (And.intro hIK (And.intro hJ (And.intro hJ1 (And.intro hJ2 (And.intro hn hn2)))))))
 have HQI := Lib.hid hqiv
 have HKS := Lib.hid hks
 clear hi1 hk2 hccv hI hK hIK hJ hJ1 hJ2 hn hn2 hnl hkl hqiv hks hJl hqi
 go_enter Tryz.func116, Tryz.ntmps116
 go_wp2_with (first
  | (go_at_call 141; refine HC.out.mono ?_; rintro e V1 ⟨g1, c1', r, W1, rfl, HB, hw1, HS⟩)
  | (refine wpList_exec rfl (HB.out _ _ _ rfl rfl) ?_)
  | fail)
 obtain ⟨M1, hM1⟩ : ∃ M1, M1 = upd M r ⟨J2, [], .slice (some ⟨g1, 0, none⟩) 3 c1', .slice none 0 0⟩ := ⟨_, rfl⟩
 rw [← hM1] at HS
 have HD : Hid (q ≠ c ∧ q ≠ r ∧ c ≠ r ∧ w.heap.size ≤ r) := by
  have := HS.out.1
  exact ⟨hqc, by omega, by omega, this⟩
 obtain ⟨ncx, hncx⟩ : ∃ ncx, ncx = nc := ⟨_, rfl⟩
 have HS1 : Hid (Store W1 M1) := HS.out.2.1
 have HE1 : Hid (Ext (Own M) (Own M1) w W1) := HS.out.2.2
 have HQ1 : Hid (M1 q = some n) := by show M1 q = _; rw [hM1]; exact (upd_other _ _ HD.out.2.1).trans HQ.out
 have HC1 : Hid (M1 c = some ncx) := by show M1 c = _; rw [hM1, hncx]; exact (upd_other _ _ HD.out.2.2.1).trans HCC.out
 have HX : Hid (ncx.its = nc.its ∧ ncx.iv = nc.iv ∧ ncx.ks = []) := by rw [hncx]; exact ⟨rfl, rfl, HKS.out⟩
 have HR1 : Hid (∃ nr, M1 r = some nr ∧ nr.its = J2 ∧ nr.ks = []) := by rw [hM1]; exact ⟨_, upd_self _ _ _, rfl, rfl⟩
 have HRe : Hid (∀ k, k ≠ q → k ≠ c → k ≠ r → M1 k = M k) := by rw [hM1]; exact fun k _ _ h3 => upd_other _ _ h3
 clear hM1 hncx HS HC hw1
 obtain ⟨nl, hnl'⟩ : ∃ nl, nl = n.its.length := ⟨_, rfl⟩
 have F1 : Hid (∀ V, Below W1.heap.size W1 V → V.cell? ⟨q, 0, none⟩ = some (.slice aq nl cqi)) := fun V hV => by
  rw [((HS1.out.on hV).cells HQ1.out).1, HQI.out, hnl']
 have F2 : Hid (∀ V, Below W1.heap.size W1 V → V.cell? ⟨c, 0, none⟩ = some (.slice (some ⟨gc, 0, none⟩) 8 cc)) := fun V hV => by
  rw [((HS1.out.on hV).cells HC1.out).1, HX.out.2.1, HIV.out]
 have F3 : Hid (∀ V, Below W1.heap.size W1 V → V.cell? ⟨gc, 8, none⟩ = some (.string y.1) ∧ V.cell? ⟨gc, 9, none⟩ = some (.slice y.2.a y.2.n y.2.c)) := fun V hV => by
  obtain ⟨_, _, _, hJ, hJ1, _⟩ := HP.out
  obtain ⟨g', c', e1, _, e2, e3, _, _, e4⟩ := (HS1.out.on hV).item HC1.out (HX.out.1.trans hJ)
  rw [hJ1, HX.out.2.1, HIV.out] at e1
  simp only [Value.slice.injEq, Option.some.injEq, Addr.mk.injEq] at e1
  obtain ⟨⟨rfl, _⟩, _⟩ := e1
  rw [hJ1] at e2 e3
  exact ⟨e2, e3⟩
 obtain ⟨U1, hU1⟩ : ∃ U, U = W1.drew.alloc (.cells (cI [y]).toArray 200) := ⟨_, rfl⟩
 have HB2 : Hid (Below W1.heap.size W1 U1) := by show Below _ _ _; rw [hU1]; exact below_step (below_drew W1) (below_alloc W1.drew _)
 have hrb : Hid (∀ (a : Act) (o : Oper) (z : Operand), o.op = .buildSlice 201 1 #[(0, z)] → a.eval z = itV y → (execOp a.eval o).run Tryz.prog W1.drew = .ok (.value (.slice (some ⟨W1.heap.size, 0, none⟩) 1 1)) U1) := fun a o z h1 h2 => by rw [hU1]; exact run_buildI W1.drew y a o z h1 h2
 have HIn : Hid (Calls Tryz.prog 140 #[.slice aq nl cqi, .int .i64 i1, .slice (some ⟨W1.heap.size, 0, none⟩) 1 1] U1 fun e V1 => ∃ a m c V2, e = .returned (.slice a m c) ∧ (Instr.storeAt 201 (.pointer (some ⟨q, 0, none⟩)) (.slice a m c)).run Tryz.prog V1 = .ok () V2 ∧ Hid (Store V2 (upd M1 q { n with iv := .slice a m c, its := I1 ++ y :: I2 }) ∧ Ext (Own M1) (Own (upd M1 q { n with iv := .slice a m c, its := I1 ++ y :: I2 })) W1 V2)) := by
  obtain ⟨hI, _, _, _, _, _, hn, _⟩ := HP.out
  have hub : U1.heap[W1.heap.size]? = some (.cells (cI [y]).toArray 200 (0, 0)) := by rw [hU1]; exact new_blk W1.drew _
  have hh := insI_node (HS1.out.on HB2.out) HQ1.out hI hn (x := y) hub (HS1.out.not_own (Nat.le_refl _))
  rw [← HI1.out, HQI.out, ← hnl'] at hh
  refine hh.mono ?_
  rintro e V1 ⟨v', rfl, a, m, c, V2, rfl, hst, s1, s2⟩
  exact ⟨a, m, c, V2, rfl, hst, s1, (Ext.of_below _ HB2.out).trans s2⟩
 clear hnl' hU1
 refine wp_region_noPanic ?_
 refine region_ph (A := fun _ => True) (e1 := 14) (B := (fun V => Below W1.heap.size W1 V)) (e2 := 14) (C := (fun _ => True)) (by kernel_rfl) (⟨trivial, fun _ => below_drew W1, fun _ => trivial⟩) (fun hSt => ?_)
 refine take_ph 0 (.pointer (some ⟨q, 0, none⟩)) [] rfl (by kernel_rfl) (fun _ _ _ h => h) (Or.inl ⟨by rfl, ?_⟩) hSt (fun hSn => ?_)
 · intro V _; go_simp
 clear hSt; rename Ph _ _ _ _ _ _ _ => hSt; simp only [Act.put, prw]
 refine take_ph 1 (.pointer (some ⟨q, 0, none⟩)) [] rfl (by kernel_rfl) (fun _ _ _ h => h) (Or.inl ⟨by rfl, ?_⟩) hSt (fun hSn => ?_)
 · intro V _; go_simp
 clear hSt; rename Ph _ _ _ _ _ _ _ => hSt; simp only [Act.put, prw]
 refine take_ph 2 (.pointer (some ⟨q, 0, none⟩)) [] rfl (by kernel_rfl) (fun _ _ _ h => h) (Or.inl ⟨by rfl, ?_⟩) hSt (fun hSn => ?_)
 · intro V _; go_simp
 clear hSt; rename Ph _ _ _ _ _ _ _ => hSt; simp only [Act.put, prw]
 refine take_ph 3 (.pointer (some ⟨q, 0, none⟩)) [] rfl (by kernel_rfl) (fun _ _ _ h => h) (Or.inl ⟨by rfl, ?_⟩) hSt (fun hSn => ?_)
 · intro V _; go_simp
 clear hSt; rename Ph _ _ _ _ _ _ _ => hSt; simp only [Act.put, prw]
 refine take_ph 4 (.slice aq nl cqi) [14] rfl (by kernel_rfl) (fun _ _ _ h => h) (Or.inl ⟨by rfl, ?_⟩) hSt (fun hSn => ?_)
 · rintro V ⟨_, hB, hC⟩; have hh := hB (by decide); have e0 := F1.out V hh; clear hB hC; go_simp
 clear hSt; rename Ph _ _ _ _ _ _ _ => hSt; simp only [Act.put, prw]
 refine take_ph 5 (.int .i64 i1) [] rfl (by kernel_rfl) (fun _ _ _ h => h) (Or.inl ⟨by rfl, ?_⟩) hSt (fun hSn => ?_)
 · intro V _; go_simp
 clear hSt; rename Ph _ _ _ _ _ _ _ => hSt; simp only [Act.put, prw]
 refine take_ph 6 (.pointer (some ⟨c, 0, none⟩)) [] rfl (by kernel_rfl) (fun _ _ _ h => h) (Or.inl ⟨by rfl, ?_⟩) hSt (fun hSn => ?_)
 · intro V _; go_simp
 clear hSt; rename Ph _ _ _ _ _ _ _ => hSt; simp only [Act.put, prw]
 refine take_ph 7 (.pointer (some ⟨c, 0, none⟩)) [] rfl (by kernel_rfl) (fun _ _ _ h => h) (Or.inl ⟨by rfl, ?_⟩) hSt (fun hSn => ?_)
 · intro V _; go_simp
 clear hSt; rename Ph _ _ _ _ _ _ _ => hSt; simp only [Act.put, prw]
 refine take_ph 8 (.pointer (some ⟨c, 0, none⟩)) [] rfl (by kernel_rfl) (fun _ _ _ h => h) (Or.inl ⟨by rfl, ?_⟩) hSt (fun hSn => ?_)
 · intro V _; go_simp
 clear hSt; rename Ph _ _ _ _ _ _ _ => hSt; simp only [Act.put, prw]
 refine take_ph 9 (.slice (some ⟨gc, 0, none⟩) 8 cc) [11, 12, 13, 14] rfl (by kernel_rfl) (fun _ _ _ h => h) (Or.inl ⟨by rfl, ?_⟩) hSt (fun hSn => ?_)
 · rintro V ⟨_, hB, hC⟩; have hh := hB (by decide); have e0 := F2.out V hh; clear hB hC; go_simp
 clear hSt; rename Ph _ _ _ _ _ _ _ => hSt; simp only [Act.put, prw]
 refine take_ph 10 (.int .i64 4) [] rfl (by kernel_rfl) (fun _ _ _ h => h) (Or.inl ⟨by rfl, ?_⟩) hSt (fun hSn => ?_)
 · intro V _; go_simp
 clear hSt; rename Ph _ _ _ _ _ _ _ => hSt; simp only [Act.put, prw]
 refine take_ph 11 (.pointer (some ⟨gc, 8, none⟩)) [] rfl (by kernel_rfl) (fun _ _ _ h => h) (Or.inl ⟨by rfl, ?_⟩) hSt (fun hSn => ?_)
 · intro V _; go_simp
 clear hSt; rename Ph _ _ _ _ _ _ _ => hSt; simp only [Act.put, prw]
 refine take_ph 12 (.agg #[.string y.1, .slice y.2.a y.2.n y.2.c]) [13, 14] rfl (by kernel_rfl) (fun _ _ _ h => h) (Or.inl ⟨by rfl, ?_⟩) hSt (fun hSn => ?_)
 · rintro V ⟨_, hB, hC⟩; have hh := hB (by decide); have e0 := F3.out V hh; clear hB hC; go_simp
 clear hSt; rename Ph _ _ _ _ _ _ _ => hSt; simp only [Act.put, prw]
 refine ready_ph 13 rfl (by kernel_rfl) rfl (.inl (hrb.out _ _ _ rfl rfl)) (⟨trivial, fun _ => HB2.out, fun _ => trivial⟩) (fun hSn => ?_)
 clear hSt; rename Ph _ _ _ _ _ _ _ => hSt; simp only [Act.put, prw]
 refine ready_call_ph 14 rfl (by kernel_rfl) (fun KK hK => ?_)
 go_simp
 go_wp2_with (first | (go_at_call 140; refine HIn.out.mono ?_; rintro e V3 ⟨a5, m5, c5, V4, rfl, hst4, HS4⟩))
 refine hK.out _ _ ?_ (fun hSn => ?_)
 · exact ⟨trivial, fun h => absurd (show true = false from h) (by decide), fun _ => trivial⟩
 clear hK KK hSt; rename Ph _ _ _ _ _ _ _ => hSt
 refine take_ph 15 (.pointer (some ⟨q, 0, none⟩)) [] rfl (by kernel_rfl) (fun _ _ _ h => h) (Or.inl ⟨by rfl, ?_⟩) hSt (fun hSn => ?_)
 · intro V _; go_simp
 clear hSt; rename Ph _ _ _ _ _ _ _ => hSt; simp only [Act.put, prw]
 refine take_ph 16 (.pointer (some ⟨q, 0, none⟩)) [] rfl (by kernel_rfl) (fun _ _ _ h => h) (Or.inl ⟨by rfl, ?_⟩) hSt (fun hSn => ?_)
 · intro V _; go_simp
 clear hSt; rename Ph _ _ _ _ _ _ _ => hSt; simp only [Act.put, prw]
 refine ready_store_ph 17 rfl (by kernel_rfl) rfl 201 _ _ rfl _ _ rfl rfl (hst4) (⟨trivial, fun h => absurd (show true = false from h) (by decide), fun _ => trivial⟩) (fun hSn => ?_)
 clear hSt; rename Ph _ _ _ _ _ _ _ => hSt
 simp only [Act.put]
 refine done_ph (by kernel_rfl) ?_ _
 clear hSt
 refine NoPanic.normal ?_
 clear F1 F2 F3 HIn hrb hst4 HB2
 obtain ⟨nq2, hnq2⟩ : ∃ nq2 : Nd, nq2 = { n with iv := .slice a5 m5 c5, its := I1 ++ y :: I2 } := ⟨_, rfl⟩
 rw [← hnq2] at HS4
 have HN2 : Hid (nq2.its = I1 ++ y :: I2 ∧ nq2.ks = n.ks ∧ nq2.cv = n.cv) := by rw [hnq2]; exact ⟨rfl, rfl, rfl⟩
 clear hnq2
 have q2 : V4.cell? ⟨q, 1, none⟩ = some (.slice (some ⟨gq, 0, none⟩) (i1 + k2 + 1) cq) := by
  rw [(HS4.out.1.cells (upd_self _ _ _)).2.1, HN2.out.2.2, HCV2.out]
 obtain ⟨U2, hU2⟩ : ∃ U, U = V4.alloc (.cells (cP [r]).toArray 196) := ⟨_, rfl⟩
 have hrb : Hid (∀ (a : Act) (o : Oper) (z : Operand), o.op = .buildSlice 202 1 #[(0, z)] → a.eval z = .pointer (some ⟨r, 0, none⟩) → (execOp a.eval o).run Tryz.prog V4 = .ok (.value (.slice (some ⟨V4.heap.size, 0, none⟩) 1 1)) U2) := fun a o z h1 h2 => by rw [hU2]; exact run_buildP V4 r a o z h1 h2
 have HIn : Hid (Calls Tryz.prog 144 #[.slice (some ⟨gq, 0, none⟩) (i1 + k2 + 1) cq, .int .i64 ((i1 : Int) + 1), .slice (some ⟨V4.heap.size, 0, none⟩) 1 1] U2 fun e V1 => ∃ a m c' V2, e = .returned (.slice a m c') ∧ (Instr.storeAt 202 (.pointer (some ⟨q, 1, none⟩)) (.slice a m c')).run Tryz.prog V1 = .ok () V2 ∧ Hid (Store V2 (upd (upd M1 q nq2) q { nq2 with cv := .slice a m c', ks := (K1 ++ [c]) ++ r :: K2 }) ∧ Ext (Own M1) (Own (upd (upd M1 q nq2) q { nq2 with cv := .slice a m c', ks := (K1 ++ [c]) ++ r :: K2 })) W1 V2)) := by
  obtain ⟨_, hK, _, _, _, _, _, hn2⟩ := HP.out
  have hb2 : Below V4.heap.size V4 U2 := by rw [hU2]; exact below_alloc V4 _
  have hub : U2.heap[V4.heap.size]? = some (.cells (cP [r]).toArray 196 (0, 0)) := by rw [hU2]; exact new_blk V4 _
  have hh := insP_node (HS4.out.1.on hb2) (upd_self M1 q nq2) (l1 := K1 ++ [c]) (l2 := K2) (by rw [HN2.out.2.1, hK]; simp) (by rw [HN2.out.2.1]; exact hn2) (x := r) hub (HS4.out.1.not_own (Nat.le_refl _))
  rw [← HK1.out, HN2.out.2.2, HCV2.out] at hh
  refine hh.mono ?_
  rintro e V1 ⟨v', rfl, a, m, c', V2, rfl, hst, s1, s2⟩
  exact ⟨a, m, c', V2, rfl, hst, s1, (HS4.out.2.trans (Ext.of_below _ hb2)).trans s2⟩
 clear hU2
 go_wp2_with (first
  | (refine wpList_exec rfl (hrb.out _ _ _ rfl rfl) ?_)
  | (go_at_call 144; refine HIn.out.mono ?_; rintro e V5 ⟨a6, m6, c6, V6, rfl, hst6, HS6⟩)
  | (refine wpList_store_at rfl _ _ _ rfl _ _ rfl rfl hst6 ?_)
  | fail)
 obtain ⟨M3, hM3⟩ : ∃ M3, M3 = upd (upd M1 q nq2) q { nq2 with cv := .slice a6 m6 c6, ks := (K1 ++ [c]) ++ r :: K2 } := ⟨_, rfl⟩
 have HM3 : Hid (M3 q = some { nq2 with cv := .slice a6 m6 c6, ks := (K1 ++ [c]) ++ r :: K2 } ∧ ∀ k, k ≠ q → M3 k = M1 k) := by
  refine ⟨by rw [hM3]; exact upd_self _ _ _, fun k hk => by rw [hM3, upd_other _ _ hk, upd_other _ _ hk]⟩
 rw [← hM3] at HS6
 clear hM3 hst6 HIn hrb q2 HS4
 have HC3 : Hid (M3 c = some ncx) := (HM3.out.2 c (Ne.symm HD.out.1)).trans HC1.out
 have F1 : Hid (∀ V, Below V6.heap.size V6 V → V.cell? ⟨c, 0, none⟩ = some (.slice (some ⟨gc, 0, none⟩) 8 cc)) := fun V hV => by
  rw [((HS6.out.1.on hV).cells HC3.out).1, HX.out.2.1, HIV.out]
 have HIn : Hid (Calls Tryz.prog 145 #[.slice (some ⟨gc, 0, none⟩) 8 cc, .int .i64 4, .int .i64 8] V6.drew fun e V1 => ∃ a m c' V2, e = .returned (.slice a m c') ∧ (Instr.storeAt 201 (.pointer (some ⟨c, 0, none⟩)) (.slice a m c')).run Tryz.prog V1 = .ok () V2 ∧ Hid (Store V2 (upd M3 c { ncx with iv := .slice a m c', its := J1 ++ [] }) ∧ Ext (Own M1) (Own (upd M3 c { ncx with iv := .slice a m c', its := J1 ++ [] })) W1 V2)) := by
  obtain ⟨_, _, _, hJ, hJ1, hJ2, _⟩ := HP.out
  have hh := delI_node HS6.out.1.drew HC3.out (l1 := J1) (l2 := y :: J2) (l3 := []) (by rw [HX.out.1, hJ]; simp) (by simp) (by rw [HX.out.1, hJ]; simp; omega)
  rw [hJ1, HX.out.2.1, HIV.out, show ((4 + (y :: J2).length : Nat) : Int) = 8 by simp; omega] at hh
  refine hh.mono ?_
  rintro e V1 ⟨v', rfl, a, m, c', V2, rfl, hst, s1, s2⟩
  exact ⟨a, m, c', V2, rfl, hst, s1, (HS6.out.2.trans (Ext.of_below _ (below_drew V6))).trans s2⟩
 refine wp_region_noPanic ?_
 refine region_ph (A := fun _ => True) (e1 := 11) (B := (fun V => Below V6.heap.size V6 V)) (e2 := 11) (C := (fun _ => True)) (by kernel_rfl) (⟨trivial, fun _ => below_drew V6, fun _ => trivial⟩) (fun hSt => ?_)
 refine take_ph 0 (.pointer (some ⟨c, 0, none⟩)) [] rfl (by kernel_rfl) (fun _ _ _ h => h) (Or.inl ⟨by rfl, ?_⟩) hSt (fun hSn => ?_)
 · intro V _; go_simp
 clear hSt; rename Ph _ _ _ _ _ _ _ => hSt; simp only [Act.put, prw]
 refine take_ph 1 (.pointer (some ⟨c, 0, none⟩)) [] rfl (by kernel_rfl) (fun _ _ _ h => h) (Or.inl ⟨by rfl, ?_⟩) hSt (fun hSn => ?_)
 · intro V _; go_simp
 clear hSt; rename Ph _ _ _ _ _ _ _ => hSt; simp only [Act.put, prw]
 refine take_ph 2 (.pointer (some ⟨c, 0, none⟩)) [] rfl (by kernel_rfl) (fun _ _ _ h => h) (Or.inl ⟨by rfl, ?_⟩) hSt (fun hSn => ?_)
 · intro V _; go_simp
 clear hSt; rename Ph _ _ _ _ _ _ _ => hSt; simp only [Act.put, prw]
 refine take_ph 3 (.pointer (some ⟨c, 0, none⟩)) [] rfl (by kernel_rfl) (fun _ _ _ h => h) (Or.inl ⟨by rfl, ?_⟩) hSt (fun hSn => ?_)
 · intro V _; go_simp
 clear hSt; rename Ph _ _ _ _ _ _ _ => hSt; simp only [Act.put, prw]
 refine take_ph 4 (.slice (some ⟨gc, 0, none⟩) 8 cc) [11] rfl (by kernel_rfl) (fun _ _ _ h => h) (Or.inl ⟨by rfl, ?_⟩) hSt (fun hSn => ?_)
 · rintro V ⟨_, hB, hC⟩; have hh := hB (by decide); have e0 := F1.out V hh; clear hB hC; go_simp
 clear hSt; rename Ph _ _ _ _ _ _ _ => hSt; simp only [Act.put, prw]
 refine take_ph 5 (.int .i64 4) [] rfl (by kernel_rfl) (fun _ _ _ h => h) (Or.inl ⟨by rfl, ?_⟩) hSt (fun hSn => ?_)
 · intro V _; go_simp
 clear hSt; rename Ph _ _ _ _ _ _ _ => hSt; simp only [Act.put, prw]
 refine take_ph 6 (.pointer (some ⟨c, 0, none⟩)) [] rfl (by kernel_rfl) (fun _ _ _ h => h) (Or.inl ⟨by rfl, ?_⟩) hSt (fun hSn => ?_)
 · intro V _; go_simp
 clear hSt; rename Ph _ _ _ _ _ _ _ => hSt; simp only [Act.put, prw]
 refine take_ph 7 (.pointer (some ⟨c, 0, none⟩)) [] rfl (by kernel_rfl) (fun _ _ _ h => h) (Or.inl ⟨by rfl, ?_⟩) hSt (fun hSn => ?_)
 · intro V _; go_simp
 clear hSt; rename Ph _ _ _ _ _ _ _ => hSt; simp only [Act.put, prw]
 refine take_ph 8 (.pointer (some ⟨c, 0, none⟩)) [] rfl (by kernel_rfl) (fun _ _ _ h => h) (Or.inl ⟨by rfl, ?_⟩) hSt (fun hSn => ?_)
 · intro V _; go_simp
 clear hSt; rename Ph _ _ _ _ _ _ _ => hSt; simp only [Act.put, prw]
 refine take_ph 9 (.slice (some ⟨gc, 0, none⟩) 8 cc) [10, 11] rfl (by kernel_rfl) (fun _ _ _ h => h) (Or.inl ⟨by rfl, ?_⟩) hSt (fun hSn => ?_)
 · rintro V ⟨_, hB, hC⟩; have hh := hB (by decide); have e0 := F1.out V hh; clear hB hC; go_simp
 clear hSt; rename Ph _ _ _ _ _ _ _ => hSt; simp only [Act.put, prw]
 refine take_ph 10 (.int .i64 8) [] rfl (by kernel_rfl) (fun _ _ _ h => h) (Or.inl ⟨by rfl, ?_⟩) hSt (fun hSn => ?_)
 · intro V _; go_simp
 clear hSt; rename Ph _ _ _ _ _ _ _ => hSt; simp only [Act.put, prw]
 refine ready_call_ph 11 rfl (by kernel_rfl) (fun KK hK => ?_)
 go_simp
 go_wp2_with (first | (go_at_call 145; refine HIn.out.mono ?_; rintro e V7 ⟨a7, m7, c7, V8, rfl, hst8, HS8⟩))
 refine hK.out _ _ ?_ (fun hSn => ?_)
 · exact ⟨trivial, fun h => absurd (show true = false from h) (by decide), fun _ => trivial⟩
 clear hK KK hSt; rename Ph _ _ _ _ _ _ _ => hSt
 refine take_ph 12 (.pointer (some ⟨c, 0, none⟩)) [] rfl (by kernel_rfl) (fun _ _ _ h => h) (Or.inl ⟨by rfl, ?_⟩) hSt (fun hSn => ?_)
 · intro V _; go_simp
 clear hSt; rename Ph _ _ _ _ _ _ _ => hSt; simp only [Act.put, prw]
 refine take_ph 13 (.pointer (some ⟨c, 0, none⟩)) [] rfl (by kernel_rfl) (fun _ _ _ h => h) (Or.inl ⟨by rfl, ?_⟩) hSt (fun hSn => ?_)
 · intro V _; go_simp
 clear hSt; rename Ph _ _ _ _ _ _ _ => hSt; simp only [Act.put, prw]
 refine ready_store_ph 14 rfl (by kernel_rfl) rfl 201 _ _ rfl _ _ rfl rfl (hst8) (⟨trivial, fun h => absurd (show true = false from h) (by decide), fun _ => trivial⟩) (fun hSn => ?_)
 clear hSt; rename Ph _ _ _ _ _ _ _ => hSt
 simp only [Act.put]
 refine done_ph (by kernel_rfl) ?_ _
 clear hSt
 refine NoPanic.normal ?_
 have HZ : Hid (SplitTo w M q c (I1 ++ y :: I2) K1 K2 J1 [] J2 [] (.returned (.tuple #[])) V8) := by
  obtain ⟨hqc, hqr, hcr, hr0⟩ := HD.out
  refine ⟨rfl, _, r, HS8.out.1, HE1.out.trans HS8.out.2, hr0, ⟨_, (upd_other _ _ hqc).trans HM3.out.1, HN2.out.1, by simp⟩, ⟨_, upd_self _ _ _, by simp, HX.out.2.2⟩, ?_, fun k h1 h2 h3 => ?_⟩
  · obtain ⟨nr, hnr, e1, e2⟩ := HR1.out
    exact ⟨nr, (upd_other _ _ (Ne.symm hcr)).trans ((HM3.out.2 r (Ne.symm hqr)).trans hnr), e1, e2⟩
  · exact (upd_other _ _ h2).trans ((HM3.out.2 k h1).trans (HRe.out k h1 h2 h3))
 clear HS8 HS6 HE1 HX HR1 HRe HM3
 go_wp2_with fail
 go_end0
 exact HZ.out
end Go.Proofs.YtalmanfjiblhcaaGreat
