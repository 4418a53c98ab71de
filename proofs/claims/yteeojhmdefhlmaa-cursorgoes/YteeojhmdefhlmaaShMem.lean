/- Rows of one's own beside others. -/
import Derived.Test.YteeojhmdefhlmaaVStep
import Derived.Test.YteeojhmdefhlmaaVTree
import Derived.Test.YteeojhmdefhlmaaVKeys0
namespace Go.Proofs.Yteeojhmdefhlmaa
open Go.RowKit Go.Sort

theorem row_base {w : World} {B B' e s n : Nat} {v : Value} {xs : List Value} (h : w.ownsRow B e s v n xs) (hB : B' ≤ B) : w.ownsRow B' e s v n xs := by
  refine ⟨h.1, ?_⟩
  rcases h.2 with h1 | ⟨g, cap, cur, rfl, h1, h2⟩
  · exact .inl h1
  · exact .inr ⟨g, cap, cur, rfl, Nat.le_trans hB h1, h2⟩
theorem row_low {w : World} {B e s n : Nat} {v : Value} {xs : List Value} (h : w.ownsRow B e s v n xs) {g : Nat} (hg : v.ownBlock = some g) : B ≤ g := by
  rcases h.2 with ⟨e1, _⟩ | ⟨g', cap, cur, e1, h1, _⟩
  · rw [e1] at hg; cases hg
  · rw [e1] at hg
    simp only [Value.ownBlock, Option.some.injEq] at hg
    omega
/-- What lies below a row's base stays while it grows. -/
theorem below_grown {w w' : World} {B e s n : Nat} {v : Value} {xs : List Value} (h : w.ownsRow B e s v n xs) (hB : B ≤ w.heap.size) (hg : w.grownBy w' v.ownBlock) : Below B w w' :=
  ⟨hg.os, hg.tape, hg.output, hg.size, fun k hk => hg.block k (by omega) fun q => by have := row_low h q.symm; omega⟩
/-- A row beside one of another type that grows. -/
theorem row_beside {w w' : World} {B1 B2 t1 t2 s1 s2 n1 n2 : Nat} {v1 v2 : Value} {l1 l2 : List Value} (h1 : w.ownsRow B1 t1 s1 v1 n1 l1) (h2 : w.ownsRow B2 t2 s2 v2 n2 l2) (hne : t1 ≠ t2) (hg : w.grownBy w' v2.ownBlock) : w'.ownsRow B1 t1 s1 v1 n1 l1 :=
  row_keep h1 fun g hv => by
    obtain ⟨c1, k1⟩ := row_block h1 hv
    refine hg.block g (blk_lt k1) fun q => ?_
    obtain ⟨c2, k2⟩ := row_block h2 q.symm
    exact kind_ne k1 k2 hne rfl
theorem below_low {w w1 w2 : World} (h : Below w.heap.size w w1) (k : Below w.heap.size w1 w2) : Below w.heap.size w w2 := h.trans k
theorem exec_append {P : Program} {w w' : World} {a : Act} {o : Oper} {s x : Operand} {t : TypeId} {vs vx v' : Value} (ho : o.op = .call { callee := .builtin .append, args := #[s, x], argTypes := #[t, t] }) (hs : a.eval s = vs) (hx : a.eval x = vx) (hr : (Builtin.append_ #[t, t] o.type #[vs, vx]).run P w = .ok v' w') : (execOp a.eval o).run P w = .ok (.value v') w' := by
  unfold execOp
  simp only [ho, resolve, invoke, builtin, Sem.run_bind, Sem.run_pure, Result.andThen_ok, List.map_toArray, List.map_cons, List.map_nil, hs, hx, hr]
end Go.Proofs.Yteeojhmdefhlmaa
