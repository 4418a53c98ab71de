/- The document's Get, Put, Drop. -/
import Derived.Test.YteeojhmdefhlmaaRnMem
namespace Go.Proofs.Yteeojhmdefhlmaa
open Go.RowKit Go.Sort

/-! ### Parts of a row, and what is laid behind another -/
/-- Pairs that are read. -/
def Src (w : World) (v : Value) (xs : List It) : Prop := v = .slice none 0 0 ∧ xs = [] ∨ ∃ g o c, v = .slice (some ⟨g, o, none⟩) xs.length c ∧ g < w.heap.size ∧ ∀ (j : Nat) u, (cI xs)[j]? = some u → w.cell? ⟨g, o + j, none⟩ = some u
theorem Src.on {w w' : World} {v : Value} {xs : List It} (h : Src w v xs) (hb : Below w.heap.size w w') : Src w' v xs := by
  rcases h with h | ⟨g, o, c, e, h1, h2⟩
  · exact .inl h
  · exact .inr ⟨g, o, c, e, Nat.lt_of_lt_of_le h1 hb.size, fun j u hj => (hb.cell (p := ⟨g, o + j, none⟩) h1).trans (h2 j u hj)⟩
theorem RowR.cells {w : World} {B : Nat} {l : List It} {g n c : Nat} (h : RowR w B (.slice (some ⟨g, 0, none⟩) n c) l) : g < w.heap.size ∧ ∀ (j : Nat) u, (cI l)[j]? = some u → w.cell? ⟨g, j, none⟩ = some u := by
  rcases h.2 with ⟨e, _⟩ | ⟨g', cap, cur, e, _, h2, _, _, _, h6⟩
  · cases e
  · simp only [Value.slice.injEq, Option.some.injEq, Addr.mk.injEq] at e
    obtain ⟨⟨rfl, _⟩, _⟩ := e
    refine ⟨blk_lt h2, fun j u hj => cell_of h2 ?_⟩
    rw [← h6, List.getElem?_take] at hj
    split at hj
    · simpa using hj
    · cases hj
theorem RowR.shape {w : World} {B : Nat} {v : Value} {l : List It} (h : RowR w B v l) : v = .slice none 0 0 ∧ l = [] ∨ ∃ g c, v = .slice (some ⟨g, 0, none⟩) l.length c ∧ l.length ≤ c ∧ c ≤ 9223372036854775807 := by
  rcases h.2 with ⟨e, e2⟩ | ⟨g, cap, cur, e, _, _, h3, h4, _⟩
  · exact .inl ⟨e, List.eq_nil_of_length_eq_zero e2⟩
  · exact .inr ⟨g, cap, e, h3, by unfold maxLen at h4; omega⟩
/-- The first pairs, the last ones. -/
theorem RowR.take {w : World} {B : Nat} {l : List It} {a : Option Addr} {n c : Nat} (h : RowR w B (.slice a n c) l) {i : Nat} (hi : i ≤ l.length) : Src w (.slice a i c) (l.take i) := by
  rcases h.shape with ⟨e, rfl⟩ | ⟨g, c', e, _⟩
  · cases e
    obtain rfl : i = 0 := by simpa using hi
    exact .inl ⟨rfl, rfl⟩
  · simp only [Value.slice.injEq] at e
    obtain ⟨rfl, _, rfl⟩ := e
    obtain ⟨h1, h2⟩ := h.cells
    refine .inr ⟨g, 0, c, by rw [List.length_take, Nat.min_eq_left hi], h1, fun j u hj => ?_⟩
    rw [Nat.zero_add]
    refine h2 j u ?_
    rw [← cI_take, List.getElem?_take] at hj
    split at hj
    · exact hj
    · cases hj
def subA (a : Option Addr) (c j : Nat) : Option Addr := if c = j then a else a.map (·.add (j * 2))
theorem RowR.drop {w : World} {B : Nat} {l : List It} {a : Option Addr} {n c : Nat} (h : RowR w B (.slice a n c) l) {j : Nat} (hj : j ≤ l.length) : Src w (.slice (subA a c j) (l.length - j) (c - j)) (l.drop j) := by
  rcases h.shape with ⟨e, rfl⟩ | ⟨g, c', e, hc, _⟩
  · cases e
    obtain rfl : j = 0 := by simpa using hj
    exact .inl ⟨rfl, rfl⟩
  · simp only [Value.slice.injEq] at e
    obtain ⟨rfl, _, rfl⟩ := e
    obtain ⟨h1, h2⟩ := h.cells
    unfold subA
    split
    · next hcj =>
      refine .inr ⟨g, 0, c - j, by rw [List.length_drop], h1, fun i u hi => ?_⟩
      rw [List.drop_of_length_le (by omega)] at hi
      simp [cI] at hi
    · refine .inr ⟨g, j * 2, c - j, by rw [List.length_drop, Option.map_some, Addr.add_lit, Nat.zero_add], h1, fun i u hi => ?_⟩
      refine h2 _ u ?_
      rw [← cI_drop, List.getElem?_drop] at hi
      exact hi
theorem exec_hi {w : World} {act : Act} {o : Oper} {x y : Operand} {a : Option Addr} {n c i : Nat} (ho : o.op = .slice 39 x none (some y) none) (hx : act.eval x = .slice a n c) (hy : act.eval y = .int .i64 i) (hi : i ≤ c) : (execOp act.eval o).run Try.prog w = .ok (.value (.slice a i c)) w := by
  unfold execOp
  simp only [ho, hx, Option.map_some, Option.map_none, hy]
  go_simp
theorem exec_lo {w : World} {act : Act} {o : Oper} {x y : Operand} {a : Option Addr} {n c j : Nat} (ho : o.op = .slice 39 x (some y) none none) (hx : act.eval x = .slice a n c) (hy : act.eval y = .int .i64 j) (hi : j ≤ n) : (execOp act.eval o).run Try.prog w = .ok (.value (.slice (subA a c j) (n - j) (c - j))) w := by
  unfold execOp subA
  simp only [ho, hx, Option.map_some, Option.map_none, hy]
  go_simp
/-- Pairs laid behind a row of one's own. -/
theorem Src.app {w U : World} {B : Nat} {v vo : Value} {L xs : List It} (hs : Src U v xs) (h : RowR U B vo L) (hB : B ≤ U.heap.size) (hl : L.length + xs.length ≤ 100000) (hbl : Below B w U) (ty : TypeId) :
    ∃ a m c V, (Builtin.append_ #[39, 39] ty #[vo, v]).run Try.prog U = .ok (.slice a m c) V ∧ RowR V B (.slice a m c) (L ++ xs) ∧ Below B w V ∧ U.grownBy V vo.ownBlock := by
  obtain ⟨i0, hi0, hz0, hz1, hz2⟩ := info_parts infoPr
  rcases hs with ⟨rfl, rfl⟩ | ⟨g, o, c, rfl, h1, h2⟩
  · have hap := run_append_owned_none (P := Try.prog) U B 39 ty 47 i0 2 Try.underlying39 hi0 _ _ _ h
    obtain ⟨a, c, rfl, _⟩ := row_shape h
    exact ⟨a, _, c, U, hap, by rw [List.append_nil]; exact h, hbl, grown_refl _ _⟩
  · obtain ⟨v', V, hr, g2, g3, _, _⟩ := run_append_own_at (P := Try.prog) U B 39 ty 47 i0 _ 2 32 Try.underlying39 hi0 hz0 hz1 hz2 rfl (by decide) vo L.length _ h ⟨g, o, none⟩ xs.length c (cI xs) (cI_len xs) (fun j u hj => by rw [Addr.add_lit]; exact h2 j u hj) (cI_one _) (by unfold maxLen; omega) (by omega) hB
    have g2' : RowR V B v' (L ++ xs) := by
      unfold RowR
      rw [List.length_append, cI_append]
      exact g2
    obtain ⟨a, c', rfl, _⟩ := row_shape g2'
    exact ⟨a, _, c', V, hr, g2', hbl.trans (below_grown h hB g3), g3⟩
theorem run_buildR (w : World) (x : It) (a : Act) (o : Oper) (y : Operand) (h : o.op = .buildSlice 39 1 #[(0, y)]) (hy : a.eval y = .agg #[.string x.1, .string x.2]) : (execOp a.eval o).run Try.prog w = .ok (.value (.slice (some ⟨w.heap.size, 0, none⟩) 1 1)) (w.alloc (.cells (cI [x]).toArray 47)) := by
  unfold execOp
  simp only [h, List.map_toArray, List.map_cons, List.map_nil, hy]
  simp [Instr.buildSlice, go_sem, cI]
theorem src_one {U : World} {b : Nat} {x : It} (h : U.heap[b]? = some (.cells (cI [x]).toArray 47 (0, 0))) : Src U (.slice (some ⟨b, 0, none⟩) 1 1) [x] :=
  .inr ⟨b, 0, 1, rfl, blk_lt h, fun j u hj => by rw [Nat.zero_add]; exact cell_of h (by simpa using hj)⟩
end Go.Proofs.Yteeojhmdefhlmaa
