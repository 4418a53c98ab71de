/- What moving and joining lean on: an item set in its place; steps told by letters. -/
import Derived.Test.YtagamkahfiackaaGreatDoorJ3
namespace Go.Proofs.YtagamkahfiackaaGreatDoor
open Go.RowKit Go.Sort

theorem cI_setI : ∀ (I1 : List It) (x y : It) (I3 : List It), ((cI (I1 ++ x :: I3)).set (I1.length * 2) (.string y.1)).set (I1.length * 2 + 1) (.slice y.2.a y.2.n y.2.c) = cI (I1 ++ y :: I3)
  | [], x, y, I3 => rfl
  | z :: I1, x, y, I3 => by
    have := cI_setI I1 x y I3
    simp only [List.cons_append, cI_cons, List.length_cons]
    rw [show (I1.length + 1) * 2 = I1.length * 2 + 1 + 1 by omega, List.set_cons_succ, List.set_cons_succ, List.set_cons_succ, List.set_cons_succ, this]
theorem Store.setI {w : World} {M : Nat → Option Nd} {q : Nat} {n : Nd} {I1 I3 : List It} {x : It} (y : It) (h : Store w M) (hq : M q = some n) (hI : n.its = I1 ++ x :: I3) {g c : Nat} (hv : n.iv = .slice (some ⟨g, 0, none⟩) (I1.length + I3.length + 1) c) :
    Store ((w.setCell ⟨g, I1.length * 2, none⟩ (.string y.1)).setCell ⟨g, I1.length * 2 + 1, none⟩ (.slice y.2.a y.2.n y.2.c)) (upd M q { n with its := I1 ++ y :: I3 }) ∧ Ext (Own M) (Own (upd M q { n with its := I1 ++ y :: I3 })) w ((w.setCell ⟨g, I1.length * 2, none⟩ (.string y.1)).setCell ⟨g, I1.length * 2 + 1, none⟩ (.slice y.2.a y.2.n y.2.c)) := by
  have hl : n.its.length = I1.length + I3.length + 1 := by rw [hI]; simp; omega
  obtain ⟨g', c', cur, e, hg, h1, h2, h3, h4⟩ := row_open (h.its q n hq) (by omega)
  rw [hv, hl] at e
  simp only [Value.slice.injEq, Option.some.injEq, Addr.mk.injEq] at e
  obtain ⟨⟨rfl, _⟩, _, rfl⟩ := e
  refine h.setRowI hq (by rw [hv, hl]) (by rw [hl]; simp; omega) ⟨h1, h2, ?_⟩ ?_ (heap_set (.slice y.2.a y.2.n y.2.c) (heap_set (.string y.1) hg)) (fun k hk => (heap_far _ hk).trans (heap_far _ hk)) ⟨rfl, rfl, rfl, by rw [size_set, size_set]⟩
  · simpa using h3
  · rw [Array.toList_setIfInBounds, Array.toList_setIfInBounds, List.take_set, List.take_set, h4, hI, cI_setI]
theorem store_item {w : World} {g o : Nat} {u1 u2 k v : Value} (h1 : k.oneCell' = true) (h2 : v.oneCell' = true) (c1 : w.cell? ⟨g, o, none⟩ = some u1) (c2 : w.cell? ⟨g, o + 1, none⟩ = some u2) (f1 : w.frozen? ⟨g, o, none⟩ = false) (f2 : w.frozen? ⟨g, o + 1, none⟩ = false) : (Instr.storeAt 99 (.pointer (some ⟨g, o, none⟩)) (.agg #[k, v])).run Tryz.prog w = .ok () ((w.setCell ⟨g, o, none⟩ k).setCell ⟨g, o + 1, none⟩ v) := by
  have hs : (sizeOf 99).run Tryz.prog w = .ok 2 w := by kernel_rfl
  have c3 : (w.setCell ⟨g, o, none⟩ k).cell? ⟨g, o + 1, none⟩ = some u2 := by rw [World.cell?_setCell_other _ _ _ _ (fun e => by have := (Addr.mk.inj e).2.1; omega)]; exact c2
  have f3 : (w.setCell ⟨g, o, none⟩ k).frozen? ⟨g, o + 1, none⟩ = false := by
    have := World.frozen?_setCells g [k] o w ⟨g, o + 1, none⟩
    simp only [World.setCells] at this
    rw [this]; exact f2
  simp only [Instr.storeAt, Instr.sureAddr, Sem.run_bind, Sem.run_pure, Result.andThen]
  simp [storeVar, hs, Value.cells, Result.andThen, storeCells, run_store _ _ _ _ _ h1, run_store _ _ _ _ _ h2, Addr.add_lit, c1, f1, c3, f3]
/-- What is left behind nodes are moved about. -/
structure Moved (w : World) (M : Nat → Option Nd) (q a b : Nat) (its : List It) (ks : List Nat) (ai : List It) (ac : List Nat) (bi : List It) (bc : List Nat) (w' : World) (M' : Nat → Option Nd) : Prop where
  st : Store w' M'
  ext : Ext (Own M) (Own M') w w'
  atq : ∃ n', M' q = some n' ∧ n'.its = its ∧ n'.ks = ks
  ata : ∃ n', M' a = some n' ∧ n'.its = ai ∧ n'.ks = ac
  atb : ∃ n', M' b = some n' ∧ n'.its = bi ∧ n'.ks = bc
  rest : ∀ k, k ≠ q → k ≠ a → k ≠ b → M' k = M k
def MovedTo (w : World) (M : Nat → Option Nd) (q a b : Nat) (its : List It) (ks : List Nat) (ai : List It) (ac : List Nat) (bi : List It) (bc : List Nat) (e : Ending) (w' : World) : Prop :=
  e = .returned (.tuple #[]) ∧ ∃ M', Moved w M q a b its ks ai ac bi bc w' M'
/-- Worlds in which one has come so far. -/
structure Far (w : World) (M : Nat → Option Nd) (W : World) (M1 : Nat → Option Nd) : Prop where
  st : Store W M1
  ext : Ext (Own M) (Own M1) w W
theorem Far.go {w W V : World} {M M1 : Nat → Option Nd} (h : Far w M W M1) (hb : Below W.heap.size W V) : Far w M V M1 := ⟨h.st.on hb, h.ext.trans (Ext.of_below _ hb)⟩
/-- takeAt from a node's items, from its children, told so. -/
theorem far_takeI {w V : World} {M M1 : Nat → Option Nd} {q : Nat} {n : Nd} {I1 I2 : List It} {x : It} (h : Far w M V M1) (hq : M1 q = some n) (hI : n.its = I1 ++ x :: I2) (hn : n.its.length ≤ 1000) : Calls Tryz.prog 65 #[.pointer (some ⟨q, 0, none⟩), .int .i64 I1.length] V fun e V' => e = .returned (.agg #[.string x.1, .slice x.2.a x.2.n x.2.c]) ∧ ∃ n', n'.its = I1 ++ I2 ∧ n'.ks = n.ks ∧ n'.cv = n.cv ∧ Far w M V' (upd M1 q n') :=
  (takeI_ h.st hq hI hn).mono fun _ _ ⟨v', e1, s1, s2⟩ => ⟨e1, { n with iv := v', its := I1 ++ I2 }, rfl, rfl, rfl, s1, h.ext.trans s2⟩
theorem far_takeP {w V : World} {M M1 : Nat → Option Nd} {q : Nat} {n : Nd} {K1 K2 : List Nat} {p : Nat} (h : Far w M V M1) (hq : M1 q = some n) (hK : n.ks = K1 ++ p :: K2) (hn : n.ks.length ≤ 1000) : Calls Tryz.prog 86 #[.pointer (some ⟨q, 1, none⟩), .int .i64 K1.length] V fun e V' => e = .returned (.pointer (some ⟨p, 0, none⟩)) ∧ ∃ n', n'.its = n.its ∧ n'.iv = n.iv ∧ n'.ks = K1 ++ K2 ∧ Far w M V' (upd M1 q n') :=
  (takeP_ h.st hq hK hn).mono fun _ _ ⟨v', e1, s1, s2⟩ => ⟨e1, { n with cv := v', ks := K1 ++ K2 }, rfl, rfl, rfl, s1, h.ext.trans s2⟩
/-- An element laid into a block of its own, inserted, and the row stored. -/
theorem far_insI {w V U : World} {M M1 : Nat → Option Nd} {q : Nat} {n : Nd} {l1 l2 : List It} {x : It} (h : Far w M V M1) (hb : Below V.heap.size V U) (hq : M1 q = some n) (hl : n.its = l1 ++ l2) (hn : n.its.length ≤ 1000) (hu : U.heap[V.heap.size]? = some (.cells (cI [x]).toArray 99 (0, 0))) :
    Calls Tryz.prog 66 #[n.iv, .int .i64 l1.length, .slice (some ⟨V.heap.size, 0, none⟩) 1 1] U fun e V1 => ∃ a m c V2, e = .returned (.slice a m c) ∧ (Instr.storeAt 100 (.pointer (some ⟨q, 0, none⟩)) (.slice a m c)).run Tryz.prog V1 = .ok () V2 ∧ ∃ n', n'.its = l1 ++ x :: l2 ∧ n'.ks = n.ks ∧ n'.cv = n.cv ∧ Far w M V2 (upd M1 q n') :=
  (insI_node (h.st.on hb) hq hl hn hu (h.st.not_own (Nat.le_refl _))).mono fun e V1 ⟨v', e1, a, m, c, V2, e2, hst, s1, s2⟩ => ⟨a, m, c, V2, by rw [e1, e2], hst, { n with iv := .slice a m c, its := l1 ++ x :: l2 }, rfl, rfl, rfl, s1, (h.go hb).ext.trans s2⟩
theorem far_insP {w V U : World} {M M1 : Nat → Option Nd} {q : Nat} {n : Nd} {l1 l2 : List Nat} {x : Nat} (h : Far w M V M1) (hb : Below V.heap.size V U) (hq : M1 q = some n) (hl : n.ks = l1 ++ l2) (hn : n.ks.length ≤ 1000) (hu : U.heap[V.heap.size]? = some (.cells (cP [x]).toArray 82 (0, 0))) :
    Calls Tryz.prog 70 #[n.cv, .int .i64 l1.length, .slice (some ⟨V.heap.size, 0, none⟩) 1 1] U fun e V1 => ∃ a m c V2, e = .returned (.slice a m c) ∧ (Instr.storeAt 101 (.pointer (some ⟨q, 1, none⟩)) (.slice a m c)).run Tryz.prog V1 = .ok () V2 ∧ ∃ n', n'.its = n.its ∧ n'.iv = n.iv ∧ n'.ks = l1 ++ x :: l2 ∧ Far w M V2 (upd M1 q n') :=
  (insP_node (h.st.on hb) hq hl hn hu (h.st.not_own (Nat.le_refl _))).mono fun e V1 ⟨v', e1, a, m, c, V2, e2, hst, s1, s2⟩ => ⟨a, m, c, V2, by rw [e1, e2], hst, { n with cv := .slice a m c, ks := l1 ++ x :: l2 }, rfl, rfl, rfl, s1, (h.go hb).ext.trans s2⟩
/-- append of what lies in a row, and the row stored. -/
theorem far_appI {w V : World} {M M1 : Nat → Option Nd} {q : Nat} {n : Nd} {xs : List It} (h : Far w M V M1) (hq : M1 q = some n) (hn : n.its.length + xs.length ≤ 1000) {v : Value} (hr : RowI V v xs) :
    ∀ ty, ∃ a m c V1 V2, (Builtin.append_ #[100, 100] ty #[n.iv, v]).run Tryz.prog V = .ok (.slice a m c) V1 ∧ (Instr.storeAt 100 (.pointer (some ⟨q, 0, none⟩)) (.slice a m c)).run Tryz.prog V1 = .ok () V2 ∧ ∃ n', n'.its = n.its ++ xs ∧ n'.ks = n.ks ∧ n'.cv = n.cv ∧ Far w M V2 (upd M1 q n') := fun ty => by
  rcases hr.2 with ⟨rfl, e⟩ | ⟨g, cap, cur, rfl, _, hg, _, _, _, hx⟩
  · have hx : xs = [] := List.eq_nil_of_length_eq_zero e
    subst hx
    obtain ⟨i0, hi0, hz0, hz1, hz2⟩ := info_parts infoVI
    have hap := run_append_owned_none (P := Tryz.prog) V 0 100 ty 99 i0 2 Tryz.underlying100 hi0 _ _ _ (h.st.its q n hq)
    obtain ⟨a, c, e1, _⟩ := row_shape (h.st.its q n hq)
    obtain ⟨a', m', c', V2, e2, hst, s1, s2⟩ := putI_of (V1 := V) (a := a) (m := n.its.length) (c := c) (l := n.its) h.st hq (grown_refl _ _) (by rw [← e1]; exact h.st.its q n hq) (by rw [← e1]; exact fun k e => .inl e)
    exact ⟨a', m', c', V, V2, by rw [hap, ← e2, e1], hst, { n with iv := .slice a' m' c', its := n.its }, by simp, rfl, rfl, s1, h.ext.trans s2⟩
  · obtain ⟨v', V1, hap, _, a, m, c, V2, rfl, hst, s1, s2⟩ := appI_run h.st hq hn ⟨g, 0, none⟩ cap (fun j u hj => by
      rw [Addr.add_lit, Nat.zero_add]
      refine cell_of hg ?_
      rw [← hx, List.getElem?_take] at hj
      split at hj
      · simpa using hj
      · cases hj) ty
    exact ⟨a, m, c, V1, V2, hap, hst, { n with iv := .slice a m c, its := n.its ++ xs }, rfl, rfl, rfl, s1, h.ext.trans s2⟩
theorem far_appP {w V : World} {M M1 : Nat → Option Nd} {q : Nat} {n : Nd} {xs : List Nat} (h : Far w M V M1) (hq : M1 q = some n) (hn : n.ks.length + xs.length ≤ 1000) {v : Value} (hr : RowP V v xs) :
    ∀ ty, ∃ a m c V1 V2, (Builtin.append_ #[101, 101] ty #[n.cv, v]).run Tryz.prog V = .ok (.slice a m c) V1 ∧ (Instr.storeAt 101 (.pointer (some ⟨q, 1, none⟩)) (.slice a m c)).run Tryz.prog V1 = .ok () V2 ∧ ∃ n', n'.its = n.its ∧ n'.iv = n.iv ∧ n'.ks = n.ks ++ xs ∧ Far w M V2 (upd M1 q n') := fun ty => by
  rcases hr.2 with ⟨rfl, e⟩ | ⟨g, cap, cur, rfl, _, hg, _, _, _, hx⟩
  · have hx : xs = [] := List.eq_nil_of_length_eq_zero e
    subst hx
    obtain ⟨i0, hi0, hz0, hz1, hz2⟩ := info_parts infoVP
    have hap := run_append_owned_none (P := Tryz.prog) V 0 101 ty 82 i0 1 Tryz.underlying101 hi0 _ _ _ (h.st.ks q n hq)
    obtain ⟨a, c, e1, _⟩ := row_shape (h.st.ks q n hq)
    obtain ⟨a', m', c', V2, e2, hst, s1, s2⟩ := putP_of (V1 := V) (a := a) (m := n.ks.length) (c := c) (l := n.ks) h.st hq (grown_refl _ _) (by rw [← e1]; exact h.st.ks q n hq) (by rw [← e1]; exact fun k e => .inl e)
    exact ⟨a', m', c', V, V2, by rw [hap, ← e2, e1], hst, { n with cv := .slice a' m' c', ks := n.ks }, rfl, rfl, by simp, s1, h.ext.trans s2⟩
  · obtain ⟨v', V1, hap, _, a, m, c, V2, rfl, hst, s1, s2⟩ := appP_run h.st hq hn ⟨g, 0, none⟩ cap (fun j u hj => by
      rw [Addr.add_lit, Nat.zero_add]
      refine cell_of hg ?_
      rw [← hx, List.getElem?_take] at hj
      split at hj
      · simpa using hj
      · cases hj) ty
    exact ⟨a, m, c, V1, V2, hap, hst, { n with cv := .slice a m c, ks := n.ks ++ xs }, rfl, rfl, rfl, s1, h.ext.trans s2⟩
/-- An item stored in its place. -/
theorem far_setI {w V : World} {M M1 : Nat → Option Nd} {q : Nat} {n : Nd} {I1 I3 : List It} {x : It} (y : It) (h : Far w M V M1) (hq : M1 q = some n) (hI : n.its = I1 ++ x :: I3) {g c : Nat} (hv : n.iv = .slice (some ⟨g, 0, none⟩) (I1.length + I3.length + 1) c) :
    ∃ V2, (Instr.storeAt 99 (.pointer (some ⟨g, I1.length * 2, none⟩)) (.agg #[.string y.1, .slice y.2.a y.2.n y.2.c])).run Tryz.prog V = .ok () V2 ∧ Far w M V2 (upd M1 q { n with its := I1 ++ y :: I3 }) := by
  obtain ⟨g', c', e1, _, h1, h2, h3, h4, _⟩ := h.st.item hq hI
  rw [hv] at e1
  simp only [Value.slice.injEq, Option.some.injEq, Addr.mk.injEq] at e1
  obtain ⟨⟨rfl, _⟩, _⟩ := e1
  obtain ⟨s1, s2⟩ := h.st.setI y hq hI hv
  exact ⟨_, store_item rfl rfl h1 h2 h3 h4, s1, h.ext.trans s2⟩
end Go.Proofs.YtagamkahfiackaaGreatDoor
