/- Rows of elements of any size: copy, clear; regions that draw their order, by hand. -/
import Derived.Test.YtagamkahfiackaaGreatDoorVMem
namespace Go.Proofs.YtagamkahfiackaaGreatDoor
open Go.RowKit Go.Sort

section
variable {P : Program}
theorem run_copy_sz (w : World) (dT sT ty elem : TypeId) (i : TypeInfo) (g o dLen dCap : Nat) (a : Addr) (sLen sCap : Nat) (cur : Array Value) (t : TypeId) (cs : List Value)
    (hu : P.underlying dT = some (.slice elem)) (hi : P.info? elem = some i)
    (hg : w.heap[g]? = some (.cells cur t (0, 0))) (hn : cs.length = Nat.min sLen dLen * i.size)
    (hsrc : ∀ j v, cs[j]? = some v → w.cell? (a.add j) = some v) (hfit : o + cs.length ≤ cur.size) (h1 : ∀ v ∈ cs, v.oneCell' = true) :
    (Builtin.copy_ #[dT, sT] ty #[.slice (some ⟨g, o, none⟩) dLen dCap, .slice (some a) sLen sCap]).run P w =
      .ok (goInt (Nat.min sLen dLen)) (w.setRow g (cur.toList.take o ++ cs ++ cur.toList.drop (o + cs.length)).toArray) := by
  have hl := run_loadCells_list (P := P) w a cs hsrc
  have hst := run_storeCells_at P g o t cs 0 cur w hg (by simpa using hfit) h1
  simp [Builtin.copy_, run_underlying hu, Builtin.lenOf, Builtin.firstCells, sizeOf, typeInfo, hi, ← hn, hl, hst]
theorem run_clear_sz (w : World) (t e ty : TypeId) (z : Value) (ht : P.underlying t = some (.slice e)) (hv : (zeroValue e).run P w = .ok z w) (g o n c : Nat) (hn : 0 < n) (cur : Array Value) (u : TypeId)
    (hg : w.heap[g]? = some (.cells cur u (0, 0))) (zs : List Value) (hz : (Builtin.zeroCells z.cells n).toList = zs) (hfit : o + zs.length ≤ cur.size) (h1 : ∀ v ∈ zs, v.oneCell' = true) :
    (Builtin.clear_ #[t] ty #[.slice (some ⟨g, o, none⟩) n c]).run P w = .ok (.tuple #[]) (w.setRow g (cur.toList.take o ++ zs ++ cur.toList.drop (o + zs.length)).toArray) := by
  have hst := run_storeCells_at P g o u zs 0 cur w hg (by simpa using hfit) h1
  simp only [Nat.add_zero] at hst
  obtain ⟨m, rfl⟩ : ∃ m, n = m + 1 := ⟨n - 1, by omega⟩
  simp [Builtin.clear_, run_underlying ht, hv, hz, hst]
/-- copy, clear, append, where their run is known. -/
theorem wpList_copy_run (w : World) {ops : Array Oper} {rest : List Oper} {o : Oper} {a : Act} {Q : Exit → Act → World → Prop} (hgd : o.guard = none) (d s : Operand) (t t' : TypeId)
    (ho : o.op = .call { callee := .builtin .copy, args := #[d, s], argTypes := #[t, t'] }) (v u : Value) (hd : a.eval d = v) (hs : a.eval s = u) {v' : Value} {w' : World}
    (hr : (Builtin.copy_ #[t, t'] o.type #[v, u]).run P w = .ok v' w') (h : wpList P ops Q rest (a.put o.dst v') w') : wpList P ops Q (o :: rest) a w :=
  wpList_plain hgd fun _ hK => by
    unfold Oper.wp execOp
    simp only [ho, resolve, invoke, builtin, Sem.run_bind, Sem.run_pure, Result.andThen_ok, List.map_toArray, List.map_cons, List.map_nil, hd, hs, hr]
    exact hK _ _ h
theorem wpList_clear_run (w : World) {ops : Array Oper} {rest : List Oper} {o : Oper} {a : Act} {Q : Exit → Act → World → Prop} (hgd : o.guard = none) (d : Operand) (t : TypeId)
    (ho : o.op = .call { callee := .builtin .clear, args := #[d], argTypes := #[t] }) (v : Value) (hd : a.eval d = v) {v' : Value} {w' : World}
    (hr : (Builtin.clear_ #[t] o.type #[v]).run P w = .ok v' w') (h : wpList P ops Q rest (a.put o.dst v') w') : wpList P ops Q (o :: rest) a w :=
  wpList_plain hgd fun _ hK => by
    unfold Oper.wp execOp
    simp only [ho, resolve, invoke, builtin, Sem.run_bind, Sem.run_pure, Result.andThen_ok, List.map_toArray, List.map_cons, List.map_nil, hd, hr]
    exact hK _ _ h
theorem step_copy_run {ops : Array Oper} {o : Oper} {a : Act} {w : World} {K : Act → World → Prop} {Q : Exit → Act → World → Prop} {E : Prop}
    (hg : o.guard = none) (d x : Operand) (dT sT : TypeId) (hop : o.op = Op.call { callee := Callee.builtin Builtin.copy, args := #[d, x], argTypes := #[dT, sT] })
    (v u : Value) (hd : a.eval d = v) (hx : a.eval x = u) {v' : Value} {w' : World} (hr : (Builtin.copy_ #[dT, sT] o.type #[v, u]).run P w = .ok v' w') (hK : K (a.put o.dst v') w') :
    if Region.wanted o (yielded ops a.tmps) = true then Oper.wp P o a w K Q else E := by
  have hw : Region.wanted o (yielded ops a.tmps) = true := by simp [Region.wanted, hg]
  rw [if_pos hw]
  unfold Oper.wp
  simp [execOp, hop, resolve, invoke, builtin, hd, hx, hr, Result.andThen]
  exact hK
theorem step_append_run {ops : Array Oper} {o : Oper} {a : Act} {w : World} {K : Act → World → Prop} {Q : Exit → Act → World → Prop} {E : Prop}
    (hg : o.guard = none) (d x : Operand) (dT sT : TypeId) (hop : o.op = Op.call { callee := Callee.builtin Builtin.append, args := #[d, x], argTypes := #[dT, sT] })
    (v u : Value) (hd : a.eval d = v) (hx : a.eval x = u) {v' : Value} {w' : World} (hr : (Builtin.append_ #[dT, sT] o.type #[v, u]).run P w = .ok v' w') (hK : K (a.put o.dst v') w') :
    if Region.wanted o (yielded ops a.tmps) = true then Oper.wp P o a w K Q else E := by
  have hw : Region.wanted o (yielded ops a.tmps) = true := by simp [Region.wanted, hg]
  rw [if_pos hw]
  unfold Oper.wp
  simp [execOp, hop, resolve, invoke, builtin, hd, hx, hr, Result.andThen]
  exact hK
end
section
variable {P : Program} {l : List Oper} {Q : Exit → Act → World → Prop} {md : Region.Mode} {S : World → Prop}
/-- One operation of a drawn region, taken first: it is found in the list. -/
theorem take_at (i : Nat) (v : Value) {oi : Oper} {post : List Oper} {fuel : Nat} {listed : Array Bool} {a : Act} {w : World} (hi : l.drop i = oi :: post)
    (hs : Region.noSelect l.toArray = true) (hf : Region.free md l.toArray listed i = true) (hr : (Region.ready md l.toArray listed).contains i = true)
    (hQ : ∀ c a w, Q (.panic c) (a.put oi.dst v) w → Q (.panic c) a w) (hy : YieldsIf P l.toArray S oi v a) (hS : S w)
    (h : wpAnyH P md l.toArray Q S fuel (listed.setIfInBounds i true) (a.put oi.dst v) w) : wpAnyH P md l.toArray Q S (fuel + 1) listed a w := by
  refine wpAnyH_take (i := i) ?_ hs hf hr hQ hy hS h
  have h1 : (l.drop i)[0]? = some oi := by rw [hi]; rfl
  rw [List.getElem?_drop, Nat.add_zero] at h1
  simpa using h1
theorem yields_load {ops : Array Oper} {o : Oper} {a : Act} (hw : Region.wanted o (yielded ops a.tmps) = true) (ty : TypeId) (x : Operand) (ho : o.op = .load ty x) (p v : Value) (hx : a.eval x = p)
    (hr : ∀ w, S w → (Instr.loadAt ty p).run P w = .ok v w) : YieldsIf P ops S o v a :=
  .inl ⟨hw, fun w hS => by
    unfold execOp
    simp only [ho, hx, hr w hS, Sem.run_bind, Sem.run_pure, Result.andThen_ok]⟩
/-- The one operation that may come up. -/
theorem ready_at (i : Nat) {oi : Oper} {post : List Oper} {fuel : Nat} {listed : Array Bool} {a : Act} {w w' : World} {v : Value} (hi : l.drop i = oi :: post) (hr : Region.ready md l.toArray listed = [i]) (hw : Region.wanted oi (yielded l.toArray a.tmps) = true)
    (hrun : (execOp a.eval oi).run P w = .ok (.value v) w' ∨ ((execOp a.eval oi).run P w = .ok .skip w' ∧ v = undef)) (hS : S w')
    (h : wpAnyH P md l.toArray Q S fuel (listed.setIfInBounds i true) (a.put oi.dst v) w') : wpAnyH P md l.toArray Q S (fuel + 1) listed a w := by
  have h1 : l.toArray[i]? = some oi := by
    have h1 : (l.drop i)[0]? = some oi := by rw [hi]; rfl
    rw [List.getElem?_drop, Nat.add_zero] at h1
    simpa using h1
  refine wpAnyH_ready hr (by simp) (AllReadyH.cons h1 (fun K hK => ?_) AllReadyH.nil)
  rw [if_pos hw]
  unfold Oper.wp
  rcases hrun with e | ⟨e, rfl⟩
  · rw [e]
    exact hK.out _ _ hS (fun _ => h)
  · rw [e]
    exact hK.out _ _ hS (fun _ => h)
theorem ready_store (i : Nat) {oi : Oper} {post : List Oper} {fuel : Nat} {listed : Array Bool} {a : Act} {w w' : World} (hi : l.drop i = oi :: post) (hr : Region.ready md l.toArray listed = [i]) (hw : Region.wanted oi (yielded l.toArray a.tmps) = true)
    (t : TypeId) (x v : Operand) (ho : oi.op = .store t x v) (xv vv : Value) (hx : a.eval x = xv) (hv : a.eval v = vv) (hrun : (Instr.storeAt t xv vv).run P w = .ok () w') (hS : S w')
    (h : wpAnyH P md l.toArray Q S fuel (listed.setIfInBounds i true) (a.put oi.dst undef) w') : wpAnyH P md l.toArray Q S (fuel + 1) listed a w :=
  ready_at i hi hr hw (.inr ⟨by unfold execOp; simp only [ho, hx, hv, hrun, Sem.run_bind, Sem.run_pure, Result.andThen_ok], rfl⟩) hS h
end
/-- A row of one's own, open. -/
theorem row_open {w : World} {base e s n : Nat} {v : Value} {xs : List Value} (h : w.ownsRow base e s v n xs) (hn : 0 < n) : ∃ g cap cur, v = .slice (some ⟨g, 0, none⟩) n cap ∧ w.heap[g]? = some (.cells cur e (0, 0)) ∧ n ≤ cap ∧ cap ≤ maxLen ∧ cur.size = cap * s ∧ cur.toList.take (n * s) = xs := by
  rcases h.2 with ⟨_, e⟩ | ⟨g, cap, cur, e1, _, h2, h3, h4, h5, h6⟩
  · omega
  · exact ⟨g, cap, cur, e1, h2, h3, h4, h5, h6⟩
theorem row_mk {w : World} {e s n g cap : Nat} {cur : Array Value} {xs : List Value} (h : w.heap[g]? = some (.cells cur e (0, 0))) (hn : n ≤ cap) (hc : cap ≤ maxLen) (hs : cur.size = cap * s) (hx : cur.toList.take (n * s) = xs) : w.ownsRow 0 e s (.slice (some ⟨g, 0, none⟩) n cap) n xs := by
  refine ⟨?_, .inr ⟨g, cap, cur, rfl, Nat.zero_le _, h, hn, hc, hs, hx⟩⟩
  rw [← hx, List.length_take, Array.length_toList, hs]
  exact Nat.min_eq_left (Nat.mul_le_mul_right s hn)
theorem grown_refl (w : World) (row : Option Nat) : w.grownBy w row := ⟨rfl, rfl, rfl, Nat.le_refl _, fun _ _ _ => rfl⟩
theorem grown_trans {w w1 w2 : World} {r : Option Nat} (h : w.grownBy w1 r) (k : w1.grownBy w2 r) : w.grownBy w2 r :=
  ⟨k.os.trans h.os, k.tape.trans h.tape, k.output.trans h.output, Nat.le_trans h.size k.size, fun i hi hn => (k.block i (Nat.lt_of_lt_of_le hi h.size) hn).trans (h.block i hi hn)⟩
theorem grown_below {w w1 : World} (r : Option Nat) (h : Below w.heap.size w w1) : w.grownBy w1 r := ⟨h.os, h.tape, h.output, h.size, fun i hi _ => h.block i hi⟩
theorem grown_drew (w : World) (r : Option Nat) : w.grownBy w.drew r := grown_below r (below_drew w)
theorem grown_setRow (w : World) (g : Nat) (cs : Array Value) : w.grownBy (w.setRow g cs) (some g) := ⟨rfl, rfl, rfl, by simp [World.setRow], fun k _ hn => setRow_other w g k cs fun e => hn (by rw [e])⟩
/-- What stays beside a row. -/
theorem grown_new {w w1 : World} {B : Nat} {r : Option Nat} {g : Nat} (h : w.grownBy w1 r) (hg : B ≤ g) (hB : w.heap.size = B) (cs : Array Value) : w.grownBy (w1.setRow g cs) r :=
  ⟨h.os, h.tape, h.output, by simp [World.setRow]; exact h.size, fun k hk hn => (setRow_other w1 g k cs (by omega)).trans (h.block k hk hn)⟩
theorem row_news {w : World} {b : Nat} {ys : List Value} {t : TypeId} (hy : w.heap[b]? = some (.cells ys.toArray t (0, 0))) : ∀ j u, ys[j]? = some u → w.cell? ((⟨b, 0, none⟩ : Addr).add j) = some u := by
  intro j u hj
  rw [Addr.add_lit, Nat.zero_add]
  exact cell_of hy (by simpa using hj)
/-- Lists that are laid over one another. -/
theorem shift_list {A xs ys : List Value} {i s m : Nat} (hx : A.take m = xs) (hm : xs.length = m) (hi : i ≤ m) (hys : ys.length = s) (hA : m + s ≤ A.length) {A1 A2 : List Value} (h1 : A1 = A.take (i + s) ++ xs.drop i ++ A.drop (i + s + (xs.drop i).length)) (h2 : A2 = A1.take i ++ ys ++ A1.drop (i + ys.length)) :
    A1.length = A.length ∧ A2.length = A.length ∧ A2.take (m + s) = xs.take i ++ (ys ++ xs.drop i) := by
  have hd : (xs.drop i).length = m - i := by rw [List.length_drop, hm]
  have l1 : A1.length = A.length := by
    rw [h1]; simp only [List.length_append, List.length_take, List.length_drop, hd]; omega
  have l2 : A2.length = A.length := by
    rw [h2]; simp only [List.length_append, List.length_take, List.length_drop, l1, hys]; omega
  have e1 : A1.take i = xs.take i := by
    rw [h1, List.append_assoc, List.take_append_of_le_length (by rw [List.length_take]; omega), List.take_take, Nat.min_eq_left (by omega), ← hx, List.take_take, Nat.min_eq_left hi]
  have e2 : A1.drop (i + s) = xs.drop i ++ A.drop (i + s + (xs.drop i).length) := by
    rw [h1, List.append_assoc]
    exact List.drop_left' (by rw [List.length_take]; omega)
  refine ⟨l1, l2, ?_⟩
  rw [h2, e1, hys, e2, List.append_assoc, show m + s = (xs.take i).length + (s + (m - i)) by rw [List.length_take, hm]; omega, List.take_length_add_append, ← hys, List.take_length_add_append, ← hd]
  rw [List.take_left]
theorem grow_list {R xs ys : List Value} {i s m : Nat} (hm : xs.length = m) (hi : i ≤ m) (hys : ys.length = s) (hR : R.take i = xs.take i) (hl : m + s ≤ R.length) {R1 R2 : List Value} (h1 : R1 = R.take i ++ ys ++ R.drop (i + ys.length)) (h2 : R2 = R1.take (i + s) ++ xs.drop i ++ R1.drop (i + s + (xs.drop i).length)) :
    R1.length = R.length ∧ R2.length = R.length ∧ R2.take (m + s) = xs.take i ++ (ys ++ xs.drop i) := by
  have hd : (xs.drop i).length = m - i := by rw [List.length_drop, hm]
  have l1 : R1.length = R.length := by
    rw [h1]; simp only [List.length_append, List.length_take, List.length_drop, hys]; omega
  have l2 : R2.length = R.length := by
    rw [h2]; simp only [List.length_append, List.length_take, List.length_drop, l1, hd]; omega
  have e1 : R1.take (i + s) = xs.take i ++ ys := by
    rw [h1, hR]
    exact List.take_left' (by rw [List.length_append, List.length_take, hys]; omega)
  refine ⟨l1, l2, ?_⟩
  rw [h2, e1, List.append_assoc, List.append_assoc, show m + s = (xs.take i).length + (ys.length + (xs.drop i).length) by rw [List.length_take, hm, hd, hys]; omega, List.take_length_add_append, List.take_length_add_append, List.take_left]
end Go.Proofs.YtagamkahfiackaaGreatDoor
