/- Rows that Shape makes: numbers, nodes, rows of numbers. -/
import Derived.Test.YtlpkpookheafpaaShRow
import Derived.Test.YtlpkpookheafpaaVKeys
namespace Go.Proofs.Ytlpkpookheafpaa
open Go.RowKit Go.Sort

def cN (l : List Nat) : List Value := l.map fun (x : Nat) => .int .i64 (x : Int)
theorem cN_len (l : List Nat) : (cN l).length = l.length * 1 := by simp [cN]
theorem cN_append (a b : List Nat) : cN (a ++ b) = cN a ++ cN b := by simp [cN]
def RowN (w : World) (B : Nat) (v : Value) (l : List Nat) : Prop := w.ownsRow B 3 1 v l.length (cN l)
def RowQ (w : World) (B : Nat) (v : Value) (l : List Nat) : Prop := w.ownsRow B 52 1 v l.length (cP l)
def RowV (w : World) (B : Nat) (v : Value) (l : List Value) : Prop := w.ownsRow B 72 1 v l.length l
theorem infoN : (Try.prog.info? 3).map (fun i => (i.zero, i.size, i.bytes)) = some (some (.int .i64 0), 1, 8) := by kernel_rfl
theorem infoNs : (Try.prog.info? 72).map (fun i => (i.zero, i.size, i.bytes)) = some (some (.slice none 0 0), 1, 24) := by kernel_rfl
theorem row_base {w : World} {B B' e s n : Nat} {v : Value} {xs : List Value} (h : w.ownsRow B e s v n xs) (hB : B' ≤ B) : w.ownsRow B' e s v n xs := by
  refine ⟨h.1, ?_⟩
  rcases h.2 with h1 | ⟨g, cap, cur, rfl, h1, h2⟩
  · exact .inl h1
  · exact .inr ⟨g, cap, cur, rfl, Nat.le_trans hB h1, h2⟩
theorem row_low {w : World} {B e s n : Nat} {v : Value} {xs : List Value} (h : w.ownsRow B e s v n xs) {g : Nat} (hg : v.ownBlock = some g) : B ≤ g := by
  rcases h.2 with ⟨e1, _⟩ | ⟨g', cap, cur, e1, h1, _⟩
  · rw [e1] at hg; cases hg
  · rw [e1] at hg
    simp only [Value.ownBlock, Option.some.injEq] at hg
    omega
/-- What lies below a row's base stays while it grows. -/
theorem below_grown {w w' : World} {B e s n : Nat} {v : Value} {xs : List Value} (h : w.ownsRow B e s v n xs) (hB : B ≤ w.heap.size) (hg : w.grownBy w' v.ownBlock) : Below B w w' :=
  ⟨hg.os, hg.tape, hg.output, hg.size, fun k hk => hg.block k (by omega) fun q => by have := row_low h q.symm; omega⟩
/-- A row beside one of another type that grows. -/
theorem row_beside {w w' : World} {B1 B2 t1 t2 s1 s2 n1 n2 : Nat} {v1 v2 : Value} {l1 l2 : List Value} (h1 : w.ownsRow B1 t1 s1 v1 n1 l1) (h2 : w.ownsRow B2 t2 s2 v2 n2 l2) (hne : t1 ≠ t2) (hg : w.grownBy w' v2.ownBlock) : w'.ownsRow B1 t1 s1 v1 n1 l1 :=
  row_keep h1 fun g hv => by
    obtain ⟨c1, k1⟩ := row_block h1 hv
    refine hg.block g (blk_lt k1) fun q => ?_
    obtain ⟨c2, k2⟩ := row_block h2 q.symm
    exact kind_ne k1 k2 hne rfl
/-- What the inner loop of Shape has made. -/
structure In2 (WI W : World) (cv bv : Value) (es ps : List Nat) : Prop where
  below : Below WI.heap.size WI W
  cs : RowN W WI.heap.size cv es
  bs : RowQ W WI.heap.size bv ps
theorem In2.on {WI W W' : World} {cv bv : Value} {es ps : List Nat} (h : In2 WI W cv bv es ps) (hb : Below W.heap.size W W') : In2 WI W' cv bv es ps := ⟨below_step h.below hb, row_on h.cs hb, row_on h.bs hb⟩
theorem in2_nil (WI : World) : In2 WI WI (.slice none 0 0) (.slice none 0 0) [] [] := ⟨Below.refl _ _, World.ownsRow_nil _ _ _ _, World.ownsRow_nil _ _ _ _⟩
theorem below_low {w w1 w2 : World} (h : Below w.heap.size w w1) (k : Below w.heap.size w1 w2) : Below w.heap.size w w2 := h.trans k
/-- One number more. -/
theorem In2.num {WI U : World} {cv bv : Value} {es ps : List Nat} (h : In2 WI U cv bv es ps) (hl : es.length ≤ 100000) {b k : Nat} (hb : U.heap[b]? = some (.cells #[.int .i64 k] 3 (0, 0))) (ty : TypeId) :
    ∃ a m c V, (Builtin.append_ #[72, 72] ty #[cv, .slice (some ⟨b, 0, none⟩) 1 1]).run Try.prog U = .ok (.slice a m c) V ∧ In2 WI V (.slice a m c) bv (es ++ [k]) ps := by
  obtain ⟨i0, hi0, hz0, hz1, hz2⟩ := info_parts infoN
  obtain ⟨v', w', hr, h2, h3, _, h5⟩ := run_append_own_at (P := Try.prog) U WI.heap.size 72 ty 3 i0 _ 1 8 Try.underlying72 hi0 hz0 hz1 hz2 rfl (by decide) cv es.length _ h.cs ⟨b, 0, none⟩ 1 1 [.int .i64 k] rfl (fun j u hj => by
    match j, hj with
    | 0, hj => cases hj; rw [Addr.add_lit, Nat.add_zero]; exact cell_of hb rfl) (fun u hu => by rw [List.mem_singleton.1 hu]; rfl) (by unfold maxLen; omega) (by omega) h.below.size
  have h2' : RowN w' WI.heap.size v' (es ++ [k]) := by
    unfold RowN
    rw [List.length_append, cN_append]
    exact h2
  obtain ⟨a, c, rfl, _⟩ := row_shape h2'
  exact ⟨a, _, c, w', hr, below_low h.below (below_grown h.cs h.below.size h3), h2', row_beside h.bs h.cs (by decide) h3⟩
/-- A node's children more. -/
theorem In2.kids {WI V : World} {cv bv v : Value} {es ps xs : List Nat} (h : In2 WI V cv bv es ps) (hl : ps.length + xs.length ≤ 100000) (hr : RowP V v xs) (ty : TypeId) :
    ∃ a m c V1, (Builtin.append_ #[56, 56] ty #[bv, v]).run Try.prog V = .ok (.slice a m c) V1 ∧ In2 WI V1 cv (.slice a m c) es (ps ++ xs) := by
  obtain ⟨i0, hi0, hz0, hz1, hz2⟩ := info_parts infoVP
  rcases hr.2 with ⟨rfl, e⟩ | ⟨g, cap, cur, rfl, _, hg, _, _, _, hx⟩
  · have hx : xs = [] := List.eq_nil_of_length_eq_zero e
    subst hx
    have hap := run_append_owned_none (P := Try.prog) V WI.heap.size 56 ty 52 i0 1 Try.underlying56 hi0 _ _ _ h.bs
    obtain ⟨a, c, rfl, _⟩ := row_shape h.bs
    exact ⟨a, _, c, V, hap, by rw [List.append_nil]; exact h⟩
  · obtain ⟨v', w', hr, h2, h3, _, h5⟩ := run_append_own_at (P := Try.prog) V WI.heap.size 56 ty 52 i0 _ 1 8 Try.underlying56 hi0 hz0 hz1 hz2 rfl (by decide) bv ps.length _ h.bs ⟨g, 0, none⟩ xs.length cap (cP xs) (cP_len xs) (fun j u hj => by
      rw [Addr.add_lit, Nat.zero_add]
      refine cell_of hg ?_
      rw [← hx, List.getElem?_take] at hj
      split at hj
      · simpa using hj
      · cases hj) (cP_one _) (by unfold maxLen; omega) (by omega) h.below.size
    have h2' : RowQ w' WI.heap.size v' (ps ++ xs) := by
      unfold RowQ
      rw [List.length_append, cP_append]
      exact h2
    obtain ⟨a, c, rfl, _⟩ := row_shape h2'
    exact ⟨a, _, c, w', hr, below_low h.below (below_grown h.bs h.below.size h3), row_beside h.cs h.bs (by decide) h3, h2'⟩
/-- Rows of numbers, in a row of one's own. -/
def RowsN (w : World) (B : Nat) (v : Value) (nss : List (List Nat)) : Prop := ∃ vs : List Value, RowV w B v vs ∧ vs.length = nss.length ∧ ∀ (i : Nat) (ns : List Nat), nss[i]? = some ns → ∃ u, vs[i]? = some u ∧ RowN w 0 u ns
theorem RowsN.on {w w' : World} {B : Nat} {v : Value} {nss : List (List Nat)} (h : RowsN w B v nss) (hb : Below w.heap.size w w') : RowsN w' B v nss := by
  obtain ⟨vs, h1, h2, h3⟩ := h
  exact ⟨vs, row_on h1 hb, h2, fun i ns hi => by obtain ⟨u, g1, g2⟩ := h3 i ns hi; exact ⟨u, g1, row_on g2 hb⟩⟩
theorem rowsN_nil (w : World) (B : Nat) : RowsN w B (.slice none 0 0) [] := ⟨[], World.ownsRow_nil _ _ _ _, rfl, fun i ns hi => by simp at hi⟩
theorem RowsN.shape {w : World} {B : Nat} {v : Value} {nss : List (List Nat)} (h : RowsN w B v nss) : ∃ a c, v = .slice a nss.length c := by
  obtain ⟨vs, h1, h2, h3⟩ := h
  obtain ⟨a, c, e, _⟩ := row_shape h1
  exact ⟨a, c, by rw [e, h2]⟩
/-- One row more. -/
theorem RowsN.snoc {w U : World} {B : Nat} {v u : Value} {nss : List (List Nat)} {ns : List Nat} (hB : B ≤ U.heap.size) (h : RowsN U B v nss) (hl : nss.length ≤ 100000) {b : Nat} (hb : U.heap[b]? = some (.cells #[u] 72 (0, 0))) (hu : RowN U 0 u ns) (hbl : Below B w U) (ty : TypeId) :
    ∃ a m c V, (Builtin.append_ #[48, 48] ty #[v, .slice (some ⟨b, 0, none⟩) 1 1]).run Try.prog U = .ok (.slice a m c) V ∧ RowsN V B (.slice a m c) (nss ++ [ns]) ∧ Below B w V ∧ ∀ B' bv ps, RowQ U B' bv ps → RowQ V B' bv ps := by
  obtain ⟨vs, h1, h2, h3⟩ := h
  have hu1 : u.oneCell' = true := by
    obtain ⟨a, c, e, _⟩ := row_shape hu
    rw [e]; rfl
  obtain ⟨i0, hi0, hz0, hz1, hz2⟩ := info_parts infoNs
  obtain ⟨v', w', hr, g2, g3, _, g5⟩ := run_append_own_at (P := Try.prog) U B 48 ty 72 i0 _ 1 24 Try.underlying48 hi0 hz0 hz1 hz2 rfl (by decide) v vs.length _ h1 ⟨b, 0, none⟩ 1 1 [u] rfl (fun j x hj => by
    match j, hj with
    | 0, hj => cases hj; rw [Addr.add_lit, Nat.add_zero]; exact cell_of hb rfl) (fun x hx => by rw [List.mem_singleton.1 hx]; exact hu1) (by unfold maxLen; omega) (by omega) hB
  have g2' : RowV w' B v' (vs ++ [u]) := by
    unfold RowV
    rw [List.length_append]
    exact g2
  obtain ⟨a, c, rfl, _⟩ := row_shape g2'
  refine ⟨a, _, c, w', hr, ⟨vs ++ [u], g2', by simp [h2], fun i ms hi => ?_⟩, hbl.trans (below_grown h1 hB g3), fun B' bv ps hq => row_beside hq h1 (by decide) g3⟩
  rcases Nat.lt_or_ge i nss.length with hlt | hge
  · rw [List.getElem?_append_left hlt] at hi
    obtain ⟨x, k1, k2⟩ := h3 i ms hi
    exact ⟨x, by rw [List.getElem?_append_left (by omega)]; exact k1, row_beside k2 h1 (by decide) g3⟩
  · rw [List.getElem?_append_right hge] at hi
    have h0 : i - nss.length = 0 := by
      rcases Nat.eq_zero_or_pos (i - nss.length) with e | e
      · exact e
      · rw [List.getElem?_eq_none (by simp; omega)] at hi; cases hi
    rw [h0] at hi
    simp at hi
    subst hi
    exact ⟨u, by rw [List.getElem?_append_right (by omega), show i - vs.length = 0 by omega]; rfl, row_beside hu h1 (by decide) g3⟩
theorem run_buildN (w : World) (k : Int) (a : Act) (o : Oper) (y : Operand) (h : o.op = .buildSlice 72 1 #[(0, y)]) (hy : a.eval y = .int .i64 k) : (execOp a.eval o).run Try.prog w = .ok (.value (.slice (some ⟨w.heap.size, 0, none⟩) 1 1)) (w.alloc (.cells #[.int .i64 k] 3)) := by
  unfold execOp
  simp only [h, List.map_toArray, List.map_cons, List.map_nil, hy]
  simp [Instr.buildSlice, go_sem]
theorem run_buildNs (w : World) (b : Option Addr) (m c : Nat) (a : Act) (o : Oper) (y : Operand) (h : o.op = .buildSlice 48 1 #[(0, y)]) (hy : a.eval y = .slice b m c) : (execOp a.eval o).run Try.prog w = .ok (.value (.slice (some ⟨w.heap.size, 0, none⟩) 1 1)) (w.alloc (.cells #[.slice b m c] 72)) := by
  unfold execOp
  simp only [h, List.map_toArray, List.map_cons, List.map_nil, hy]
  simp [Instr.buildSlice, go_sem]
/-- A node among those of a row. -/
theorem RowQ.get {w : World} {B : Nat} {v : Value} {l : List Nat} (h : RowQ w B v l) {i q : Nat} (hi : l[i]? = some q) : ∃ g c, v = .slice (some ⟨g, 0, none⟩) l.length c ∧ g < w.heap.size ∧ w.cell? ⟨g, i, none⟩ = some (.pointer (some ⟨q, 0, none⟩)) := by
  have hl : i < l.length := (List.getElem?_eq_some_iff.1 hi).1
  obtain ⟨g, c, cur, e, hg, _, _, _, hx⟩ := row_open h (by omega)
  refine ⟨g, c, e, blk_lt hg, cell_of hg ?_⟩
  have := cP_get l i q hi
  rw [← hx, List.getElem?_take] at this
  split at this
  · simpa [pt] using this
  · cases this
/-- Numbers behind a slice; rows of them. -/
def NumsIn (w : World) (a : Option Addr) (ns : List Nat) : Prop := ∀ (j x : Nat), ns[j]? = some x → ∃ g : Nat, a = some ⟨g, 0, none⟩ ∧ w.cell? ⟨g, j, none⟩ = some (.int .i64 (x : Int))
def RowsIn (w : World) (a : Option Addr) (nss : List (List Nat)) : Prop := ∀ (i : Nat) (ns : List Nat), nss[i]? = some ns → ∃ g a2 c2, a = some ⟨g, 0, none⟩ ∧ w.cell? ⟨g, i, none⟩ = some (.slice a2 ns.length c2) ∧ NumsIn w a2 ns
theorem RowN.nums {w : World} {B : Nat} {v : Value} {ns : List Nat} (h : RowN w B v ns) : ∃ a c, v = .slice a ns.length c ∧ NumsIn w a ns := by
  obtain ⟨a, c, rfl, _⟩ := row_shape h
  refine ⟨a, c, rfl, fun j x hj => ?_⟩
  have hl : j < ns.length := (List.getElem?_eq_some_iff.1 hj).1
  obtain ⟨g, c', cur, e, hg, _, _, _, hx⟩ := row_open h (by omega)
  cases e
  refine ⟨g, rfl, cell_of hg ?_⟩
  have : (cN ns)[j]? = some (.int .i64 (x : Int)) := by simp [cN, hj]
  rw [← hx, List.getElem?_take] at this
  split at this
  · simpa using this
  · cases this
theorem RowsN.rows {w : World} {B : Nat} {v : Value} {nss : List (List Nat)} (h : RowsN w B v nss) : ∃ a c, v = .slice a nss.length c ∧ RowsIn w a nss := by
  obtain ⟨a, c, rfl⟩ := h.shape
  obtain ⟨vs, h1, h2, h3⟩ := h
  refine ⟨a, c, rfl, fun i ns hi => ?_⟩
  obtain ⟨u, k1, k2⟩ := h3 i ns hi
  have hl : i < vs.length := (List.getElem?_eq_some_iff.1 k1).1
  obtain ⟨g, c', cur, e, hg, _, _, _, hx⟩ := row_open h1 (by omega)
  simp only [Value.slice.injEq] at e
  obtain ⟨rfl, _, _⟩ := e
  obtain ⟨a2, c2, rfl, k3⟩ := k2.nums
  refine ⟨g, a2, c2, rfl, cell_of hg ?_, k3⟩
  rw [← hx, List.getElem?_take] at k1
  split at k1
  · simpa using k1
  · cases k1
end Go.Proofs.Ytlpkpookheafpaa
