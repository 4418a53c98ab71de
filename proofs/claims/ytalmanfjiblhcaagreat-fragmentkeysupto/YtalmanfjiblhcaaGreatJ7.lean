/- Blocks of one's own that hold a table or a column and may be written; small things of a region that draws its order; The walk of the law's 'twin'; Rows of tables in memory; a catalog; Len, placeOf, Find; A list of tables among the arguments opened; how much there is of it. -/
import Derived.Test.YtalmanfjiblhcaaGreatJ5
import Derived.Test.YtalmanfjiblhcaaGreatJ6
import Derived.Test.YtalmanfjiblhcaaGreatJ4
namespace Go.Proofs.YtalmanfjiblhcaaGreat.Tb
open Go.RowKit Go.Sort
theorem Frz.on {w w' : World} {blk off : Nat} (h : w.frozen? ⟨blk, off, none⟩ = false) (hl : blk < w.heap.size) (hb : Below w.heap.size w w') : w'.frozen? ⟨blk, off, none⟩ = false := (hb.frozen (p := ⟨blk, off, none⟩) hl).trans h
def TbB (V : World) (B : Nat) (nm : ByteArray) (lv : Value) : Prop :=
 V.cell? ⟨B, 0, none⟩ = some (.string nm) ∧ V.cell? ⟨B, 1, none⟩ = some lv ∧ V.frozen? ⟨B, 0, none⟩ = false ∧ V.frozen? ⟨B, 1, none⟩ = false
theorem TbB.lt {V : World} {B : Nat} {nm : ByteArray} {lv : Value} (h : TbB V B nm lv) : B < V.heap.size := block_lt_of_cell h.1
theorem TbB.on {V V' : World} {B : Nat} {nm : ByteArray} {lv : Value} (h : TbB V B nm lv) (hb : Below V.heap.size V V') : TbB V' B nm lv := by
 have hl := h.lt
 obtain ⟨h0, h1, f0, f1⟩ := h
 exact ⟨(hb.cell hl).trans h0, (hb.cell hl).trans h1, Frz.on f0 hl hb, Frz.on f1 hl hb⟩
theorem TbB.grown {V V' : World} {B : Nat} {nm : ByteArray} {lv : Value} {row : Option Nat} (h : TbB V B nm lv) (hg : V.grownBy V' row) (hr : ∀ k, row = some k → B < k) : TbB V' B nm lv := by
 have hl := h.lt
 have hb : Below (B + 1) V V' := (Below.refl _ _).grown hg hl hr
 obtain ⟨h0, h1, f0, f1⟩ := h
 exact ⟨(hb.cell (Nat.lt_succ_self B)).trans h0, (hb.cell (Nat.lt_succ_self B)).trans h1, (hb.frozen (p := ⟨B, 0, none⟩) (Nat.lt_succ_self B)).trans f0, (hb.frozen (p := ⟨B, 1, none⟩) (Nat.lt_succ_self B)).trans f1⟩
theorem tbB_new (w : World) (nm : ByteArray) (a : Option Addr) (n c : Nat) (ty : TypeId) : TbB (w.alloc (.cells #[.string nm, .slice a n c] ty)) w.heap.size nm (.slice a n c) := by
 refine ⟨?_, ?_, ?_, ?_⟩ <;> simp [go_sem]
theorem TbB.tab {V : World} {B : Nat} {nm : ByteArray} {a : Option Addr} {n c : Nat} (h : TbB V B nm (.slice a n c)) : InT V B nm a n c := ⟨h.1, h.2.1⟩
theorem store_sl {w : World} {q o : Nat} {v : Value} {t : TypeId} {a : Option Addr} {n c : Nat} (hc : w.cell? ⟨q, o, none⟩ = some v) (hf : w.frozen? ⟨q, o, none⟩ = false) (hs : (sizeOf t).run Tryz.prog w = .ok 1 w) : (Instr.storeAt t (.pointer (some ⟨q, o, none⟩)) (.slice a n c)).run Tryz.prog w = .ok () (w.setCell ⟨q, o, none⟩ (.slice a n c)) := by
 simp only [Instr.storeAt, Instr.sureAddr, Sem.run_bind, Sem.run_pure, Result.andThen]
 simp [storeVar, hs, Value.cells, Result.andThen, storeCells, hc, hf, go_sem]
theorem exec_append {P : Program} {w w' : World} {a : Act} {o : Oper} {s x : Operand} {t : TypeId} {vs vx v' : Value} (ho : o.op = .call { callee := .builtin .append, args := #[s, x], argTypes := #[t, t] }) (hs : a.eval s = vs) (hx : a.eval x = vx) (hr : (Builtin.append_ #[t, t] o.type #[vs, vx]).run P w = .ok v' w') : (execOp a.eval o).run P w = .ok (.value v') w' := by
 unfold execOp
 simp only [ho, resolve, invoke, builtin, Sem.run_bind, Sem.run_pure, Result.andThen_ok, List.map_toArray, List.map_cons, List.map_nil, hs, hx, hr]
end Go.Proofs.YtalmanfjiblhcaaGreat.Tb
namespace Go.Proofs.YtalmanfjiblhcaaGreat.Tb
open Go.RowKit Go.Sort
theorem wpList_exec {P : Program} {ops : Array Oper} {rest : List Oper} {o : Oper} {a : Act} {w w' : World} {v : Value} {Q : Exit → Act → World → Prop} (hgd : o.guard = none) (hr : (execOp a.eval o).run P w = .ok (.value v) w') (h : wpList P ops Q rest (a.put o.dst v) w') : wpList P ops Q (o :: rest) a w :=
 wpList_plain hgd fun _ hK => by
  unfold Oper.wp
  rw [hr]
  exact hK _ _ h
theorem app_cols {w : World} {base : Nat} {v : Value} {es ys : List Col} (hown : OwnC w base v es) (t : TypeId) {b o m c' : Nat} (hin : ColsIn w (some ⟨b, o, none⟩) ys) (hm : ys.length = m) (hlen : (es.length + ys.length) * 32 ≤ 140737488355328) (hbase : base ≤ w.heap.size) :
 ∃ a n c w', (Builtin.append_ #[42, 42] t #[v, .slice (some ⟨b, o, none⟩) m c']).run Tryz.prog w = .ok (.slice a n c) w' ∧ OwnC w' base (.slice a n c) (es ++ ys) ∧ w.grownBy w' v.ownBlock := by
 obtain ⟨i0, hi, hz0, hz1, hz2⟩ := info_parts infoC
 subst hm
 obtain ⟨v', w', hr, h2, h3, _, h5⟩ := run_append_own_at (P := Tryz.prog) w base 42 t 112 i0 (.agg #[.string ⟨#[]⟩, .int .i64 0, .bool false, .bool false]) 4 32 Tryz.underlying42 hi hz0 hz1 hz2 rfl (by decide) v es.length (colCells es) hown ⟨b, o, none⟩ ys.length c' (colCells ys) (colCells_len ys) (colNews hin) (colCells_one ys) (by unfold maxLen; omega) (by omega) hbase
 have ho : OwnC w' base v' (es ++ ys) := ownC_join rfl rfl h2
 obtain ⟨a, c, rfl, _, _⟩ := ho.cols
 exact ⟨a, _, c, w', hr, ho, h3⟩
theorem app_nil {w : World} {cs : List Col} {a : Option Addr} {c : Nat} (h : ColsIn w a cs) (hnil : a = none → c = 0) (hlen : cs.length * 32 ≤ 140737488355328) (t : TypeId) :
 ∃ a3 n3 c3 V3, (Builtin.append_ #[42, 42] t #[.slice none 0 0, .slice a cs.length c]).run Tryz.prog w = .ok (.slice a3 n3 c3) V3 ∧ OwnC V3 w.heap.size (.slice a3 n3 c3) cs ∧ Below w.heap.size w V3 := by
 cases a with
 | none =>
   have h0 : cs = [] := by
    refine Classical.byContradiction fun hne => ?_
    obtain ⟨_, _, e, _⟩ := h 0 (List.length_pos_iff.2 hne)
    cases e
   subst h0
   obtain rfl := hnil rfl
   exact ⟨none, 0, 0, w, by kernel_rfl, ownC_nil _ _, Below.refl _ _⟩
 | some ad =>
   obtain ⟨b, o, m⟩ := ad
   by_cases h0 : cs = []
   · subst h0
     obtain ⟨i0, hi, hz0, hz1, hz2⟩ := info_parts infoC
     obtain ⟨v', w', hr, h2, h3, _, h5⟩ := run_append_own_at (P := Tryz.prog) w w.heap.size 42 t 112 i0 (.agg #[.string ⟨#[]⟩, .int .i64 0, .bool false, .bool false]) 4 32 Tryz.underlying42 hi hz0 hz1 hz2 rfl (by decide) (.slice none 0 0) 0 [] (ownC_nil _ _) ⟨b, o, m⟩ 0 c [] rfl (fun j u hj => by simp at hj) (fun u hu => by simp at hu) (by unfold maxLen; omega) (by omega) (Nat.le_refl _)
     have ho : OwnC w' w.heap.size v' [] := h2
     obtain ⟨a, c3, rfl, _, _⟩ := ho.cols
     exact ⟨a, _, c3, w', hr, ho, (Below.refl _ _).grown h3 (Nat.le_refl _) (fun k hk => by simp [Value.ownBlock] at hk)⟩
   · obtain ⟨b', o', e, _⟩ := h 0 (List.length_pos_iff.2 h0)
     simp only [Option.some.injEq, Addr.mk.injEq] at e
     obtain ⟨rfl, rfl, rfl⟩ := e
     obtain ⟨a3, n3, c3, V3, hr, ho, hg⟩ := app_cols (ownC_nil w w.heap.size) t (c' := c) h rfl (by simpa using hlen) (Nat.le_refl _)
     exact ⟨a3, n3, c3, V3, hr, ho, (Below.refl _ _).grown hg (Nat.le_refl _) (fun k hk => by simp [Value.ownBlock] at hk)⟩
theorem OwnC.set {w : World} {N B o : Nat} {u v : Value} {vs : List Col} (h : OwnC w N v vs) (hB : B < N) : OwnC (w.setCell ⟨B, o, none⟩ u) N v vs := by
 refine ⟨h.1, ?_⟩
 rcases h.2 with h1 | ⟨g, cap, cur, e, h1, h2, h3, h4, h5, h6⟩
 · exact .inl h1
 · exact .inr ⟨g, cap, cur, e, h1, (Below.heap_setCell w ⟨B, o, none⟩ u g (by show g ≠ B; omega)).trans h2, h3, h4, h5, h6⟩
theorem OwnC.cap {w : World} {N : Nat} {a : Option Addr} {n c : Nat} {vs : List Col} (h : OwnC w N (.slice a n c) vs) : n = vs.length ∧ n ≤ c ∧ (a = none → c = 0) ∧ ∀ b o, a = some ⟨b, o, none⟩ → N ≤ b := by
 obtain ⟨a', c', e, _, hn⟩ := h.cols
 simp only [Value.slice.injEq] at e
 obtain ⟨rfl, rfl, rfl⟩ := e
 refine ⟨rfl, ?_, hn, fun b o e => ?_⟩
 rcases h.2 with ⟨e, h0⟩ | ⟨g, cap, cur, e, _, _, h3, _⟩
 · rw [h0]; exact Nat.zero_le _
 · simp only [Value.slice.injEq] at e
   obtain ⟨_, _, rfl⟩ := e
   exact h3
 · exact (World.ownsRow.lt h b (by rw [e]; rfl)).1
theorem cell_other {w : World} {B o : Nat} {u : Value} {p : Addr} (h : p.block ≠ B) : (w.setCell ⟨B, o, none⟩ u).cell? p = w.cell? p := World.cell?_of_block (w := w) (Below.heap_setCell w ⟨B, o, none⟩ u p.block h)
theorem ColsIn.set {w : World} {B o : Nat} {u : Value} {a : Option Addr} {cs : List Col} (h : ColsIn w a cs) (hB : ∀ b o', a = some ⟨b, o', none⟩ → b ≠ B) : ColsIn (w.setCell ⟨B, o, none⟩ u) a cs := by
 intro i hi
 obtain ⟨b, o', e, h0, h1, h2, h3⟩ := h i hi
 have hb := hB b o' e
 exact ⟨b, o', e, (cell_other hb).trans h0, (cell_other hb).trans h1, (cell_other hb).trans h2, (cell_other hb).trans h3⟩
def TwinTo (w : World) (nm : ByteArray) (cs : List Col) (L : Nat) (e : Ending) (w' : World) : Prop :=
 ∃ a c, e = .returned (.agg #[.string nm, .slice a L c]) ∧ ColsIn w' a cs ∧ L ≤ c ∧ (a = none → c = 0) ∧ (∀ b o, a = some ⟨b, o, none⟩ → w.heap.size ≤ b) ∧ Below w.heap.size w w'
end Go.Proofs.YtalmanfjiblhcaaGreat.Tb
namespace Go.Proofs.YtalmanfjiblhcaaGreat.Tb
open Go.RowKit Go.Sort
def Free (w : World) (a : Option Addr) : Prop := ∀ b o, a = some ⟨b, o, none⟩ → b < w.heap.size ∧ ∀ p, w.frozen? ⟨b, p, none⟩ = false
theorem Free.on {w w' : World} {a : Option Addr} (h : Free w a) (hb : Below w.heap.size w w') : Free w' a := fun b o e =>
 ⟨Nat.lt_of_lt_of_le (h b o e).1 hb.size, fun p => Frz.on ((h b o e).2 p) (h b o e).1 hb⟩
theorem Free.set {w : World} {a : Option Addr} (h : Free w a) (p : Addr) (u : Value) : Free (w.setCell p u) a := fun b o e => by
 have hb : Below 0 w (w.setCell p u) := ((Below.refl _ _).setCell (Nat.zero_le _) _)
 exact ⟨Nat.lt_of_lt_of_le (h b o e).1 hb.size, fun q => by rw [World.frozen?_setCell]; exact (h b o e).2 q⟩
theorem OwnC.free {w : World} {N : Nat} {a : Option Addr} {n c : Nat} {vs : List Col} (h : OwnC w N (.slice a n c) vs) : Free w a := fun b o e => by
 rcases h.2 with ⟨e2, _⟩ | ⟨g, cap, cur, e2, h1, h2, _⟩
 · simp only [Value.slice.injEq] at e2
   rw [e2.1] at e; cases e
 · simp only [Value.slice.injEq] at e2
   rw [e2.1] at e
   simp only [Option.some.injEq, Addr.mk.injEq] at e
   obtain ⟨rfl, _⟩ := e
   exact ⟨(Array.getElem?_eq_some_iff.1 h2).1, fun p => by unfold World.frozen?; rw [h2]; simp⟩
def TwinF (w : World) (nm : ByteArray) (cs : List Col) (L : Nat) (e : Ending) (w' : World) : Prop :=
 ∃ a c, e = .returned (.agg #[.string nm, .slice a L c]) ∧ (ColsIn w' a cs ∧ L ≤ c ∧ (a = none → c = 0) ∧ (∀ b o, a = some ⟨b, o, none⟩ → w.heap.size ≤ b) ∧ Free w' a) ∧ Below w.heap.size w w'
structure TV where
 nm : ByteArray
 a : Option Addr
 c : Nat
 cs : List Col
def TV.val (t : TV) : Value := .slice t.a t.cs.length t.c
def TV.tab (t : TV) : Tab := ⟨t.nm, t.cs⟩
def TabsIn (w : World) (a : Option Addr) (ts : List TV) : Prop :=
 ∀ i (h : i < ts.length), ∃ b o, a = some ⟨b, o, none⟩ ∧ w.cell? ⟨b, o + i * 2, none⟩ = some (.string ts[i].nm) ∧ w.cell? ⟨b, o + i * 2 + 1, none⟩ = some (.slice ts[i].a ts[i].cs.length ts[i].c)
theorem TabsIn.on {w w' : World} {a : Option Addr} {ts : List TV} (h : TabsIn w a ts) (hb : Below w.heap.size w w') : TabsIn w' a ts := by
 intro i hi
 obtain ⟨b, o, e, h0, h1⟩ := h i hi
 exact ⟨b, o, e, (hb.cell (block_lt_of_cell h0)).trans h0, (hb.cell (block_lt_of_cell h1)).trans h1⟩
theorem tabsIn_nil (w : World) (a : Option Addr) : TabsIn w a [] := fun i hi => by simp at hi
def ColsAll (w : World) (ts : List TV) : Prop := ∀ i (h : i < ts.length), ColsIn w ts[i].a ts[i].cs ∧ ts[i].cs.length ≤ ts[i].c ∧ (ts[i].a = none → ts[i].c = 0)
theorem ColsAll.on {w w' : World} {ts : List TV} (h : ColsAll w ts) (hb : Below w.heap.size w w') : ColsAll w' ts := fun i hi => ⟨(h i hi).1.on hb, (h i hi).2⟩
def tvCells : List TV → List Value
 | [] => []
 | t :: r => .string t.nm :: .slice t.a t.cs.length t.c :: tvCells r
theorem tvCells_len : ∀ ts, (tvCells ts).length = ts.length * 2
 | [] => rfl
 | t :: r => by simp only [tvCells, List.length_cons, tvCells_len r]; omega
theorem tvCells_append : ∀ a b, tvCells a ++ tvCells b = tvCells (a ++ b)
 | [], _ => rfl
 | x :: r, b => by simp only [tvCells, List.cons_append, tvCells_append r b]
theorem tvCells_at : ∀ (ts : List TV) (i : Nat) (h : i < ts.length), (tvCells ts)[i * 2]? = some (.string ts[i].nm) ∧ (tvCells ts)[i * 2 + 1]? = some (.slice ts[i].a ts[i].cs.length ts[i].c)
 | [], i, h => by simp at h
 | t :: r, 0, _ => ⟨rfl, rfl⟩
 | t :: r, i + 1, h => by
   obtain ⟨h0, h1⟩ := tvCells_at r i (by simpa using h)
   refine ⟨?_, ?_⟩
   · rw [show (i + 1) * 2 = i * 2 + 2 by omega]; simp only [tvCells, List.getElem?_cons_succ, List.getElem_cons_succ]; exact h0
   · rw [show (i + 1) * 2 + 1 = i * 2 + 1 + 2 by omega]; simp only [tvCells, List.getElem?_cons_succ, List.getElem_cons_succ]; exact h1
theorem tvCells_one : ∀ (ts : List TV), ∀ u ∈ tvCells ts, u.oneCell' = true
 | [], u, h => by simp [tvCells] at h
 | t :: r, u, h => by
   simp only [tvCells, List.mem_cons] at h
   rcases h with rfl | rfl | h
   · rfl
   · rfl
   · exact tvCells_one r u h
def OwnTV (w : World) (base : Nat) (v : Value) (ts : List TV) : Prop := w.ownsRow base 44 2 v ts.length (tvCells ts)
theorem OwnTV.on {w w' : World} {base : Nat} {v : Value} {ts : List TV} (h : OwnTV w base v ts) (hb : Below w.heap.size w w') : OwnTV w' base v ts := by
 refine ⟨h.1, ?_⟩
 rcases h.2 with h1 | ⟨g, cap, cur, e, h1, h2, h3, h4, h5, h6⟩
 · exact .inl h1
 · exact .inr ⟨g, cap, cur, e, h1, (hb.block g (Array.getElem?_eq_some_iff.1 h2).1).trans h2, h3, h4, h5, h6⟩
theorem ownTV_nil (w : World) (base : Nat) : OwnTV w base (.slice none 0 0) [] := World.ownsRow_nil w base 44 2
theorem OwnTV.tabs {w : World} {base : Nat} {v : Value} {ts : List TV} (h : OwnTV w base v ts) : ∃ a c, v = .slice a ts.length c ∧ TabsIn w a ts ∧ ts.length ≤ c ∧ (a = none → c = 0) ∧ ∀ b o, a = some ⟨b, o, none⟩ → base ≤ b ∧ b < w.heap.size := by
 rcases h.2 with ⟨rfl, h0⟩ | ⟨g, cap, cur, rfl, hb, hg, h1, h2, h3, h4⟩
 · exact ⟨none, 0, by rw [h0], fun i hi => by omega, by omega, fun _ => rfl, (fun b o e => (by cases e))⟩
 · refine ⟨_, cap, rfl, fun i hi => ⟨g, 0, rfl, ?_⟩, h1, (fun hh => (by cases hh)), fun b o e => ?_⟩
   · obtain ⟨c0, c1⟩ := tvCells_at ts i hi
     have k0 := World.ownsRow.cells h (g := g) rfl _ _ c0
     have k1 := World.ownsRow.cells h (g := g) rfl _ _ c1
     rw [Addr.add_lit] at k0 k1
     exact ⟨k0, by rw [Nat.add_assoc]; exact k1⟩
   · simp only [Option.some.injEq, Addr.mk.injEq] at e
     obtain ⟨rfl, _⟩ := e
     exact ⟨hb, (Array.getElem?_eq_some_iff.1 hg).1⟩
theorem infoT : (Tryz.prog.info? 44).map (fun i => (i.zero, i.size, i.bytes)) = some (some (.agg #[.string ⟨#[]⟩, .slice none 0 0]), 2, 40) := by kernel_rfl
theorem run_buildT (w : World) (nm : ByteArray) (a : Option Addr) (n c : Nat) (ac : Act) (o : Oper) (y : Operand) (h : o.op = .buildSlice 23 1 #[(0, y)]) (hy : ac.eval y = .agg #[.string nm, .slice a n c]) : (execOp ac.eval o).run Tryz.prog w = .ok (.value (.slice (some ⟨w.heap.size, 0, none⟩) 1 1)) (w.alloc (.cells #[.string nm, .slice a n c] 44)) := by
 unfold execOp
 simp only [h, List.map_toArray, List.map_cons, List.map_nil, hy]
 simp [Instr.buildSlice, go_sem]
theorem store_tab {w : World} {B : Nat} {nm : ByteArray} {lv x y : Value} (h : TbB w B nm lv) (h1 : x.oneCell' = true) (h2 : y.oneCell' = true) : (Instr.storeAt 44 (.pointer (some ⟨B, 0, none⟩)) (.agg #[x, y])).run Tryz.prog w = .ok () ((w.setCell ⟨B, 0, none⟩ x).setCell ⟨B, 1, none⟩ y) := by
 obtain ⟨c1, c2, f1, f2⟩ := h
 have hs : (sizeOf 44).run Tryz.prog w = .ok 2 w := by kernel_rfl
 have c3 : (w.setCell ⟨B, 0, none⟩ x).cell? ⟨B, 1, none⟩ = some lv := by rw [World.cell?_setCell_other _ _ _ _ (fun e => by have := (Addr.mk.inj e).2.1; omega)]; exact c2
 have f3 : (w.setCell ⟨B, 0, none⟩ x).frozen? ⟨B, 1, none⟩ = false := by
  have := World.frozen?_setCells B [x] 0 w ⟨B, 1, none⟩
  simp only [World.setCells] at this
  rw [this]; exact f2
 simp only [Instr.storeAt, Instr.sureAddr, Sem.run_bind, Sem.run_pure, Result.andThen]
 simp [storeVar, hs, Value.cells, Result.andThen, storeCells, run_store _ _ _ _ _ h1, run_store _ _ _ _ _ h2, Addr.add_lit, c1, f1, c3, f3]
structure CatIn (w : World) (N BC : Nat) (ts : List TV) : Prop where
 len : ts.length ≤ 32
 at_ : N ≤ BC
 row : ∃ a c, w.cell? ⟨BC, 0, none⟩ = some (.slice a ts.length c) ∧ TabsIn w a ts ∧ ∀ b o, a = some ⟨b, o, none⟩ → N ≤ b
 cols : ColsAll w ts
 far : ∀ i (h : i < ts.length), ∀ b o, ts[i].a = some ⟨b, o, none⟩ → N ≤ b
theorem CatIn.on {w w' : World} {N BC : Nat} {ts : List TV} (h : CatIn w N BC ts) (hb : Below w.heap.size w w') : CatIn w' N BC ts := by
 obtain ⟨a, c, h1, h2, h3⟩ := h.row
 exact ⟨h.len, h.at_, ⟨a, c, (hb.cell (block_lt_of_cell h1)).trans h1, h2.on hb, h3⟩, h.cols.on hb, h.far⟩
def isNT (name : ByteArray) (t : TV) : Bool := lst t.nm == lst name
set_option maxHeartbeats 1000000 in
theorem lenC_ (N BC : Nat) (ts : List TV) (w : World) (h : CatIn w N BC ts) : Calls Tryz.prog 67 #[.pointer (some ⟨BC, 0, none⟩)] w fun e w' => e = .returned (.int .i64 ts.length) ∧ w' = w := by
 obtain ⟨a, c, h1, _, _⟩ := h.row
 generalize ts.length = L at *
 clear h
 go_enter Tryz.func67, Tryz.ntmps67
 go_wp2_with fail
 go_ret
 exact ⟨rfl, rfl⟩
set_option maxRecDepth 100000 in
set_option maxHeartbeats 1000000 in
theorem placeC_ (N BC : Nat) (ts : List TV) (name : ByteArray) (w : World) (h : CatIn w N BC ts) : Calls Tryz.prog 38 #[.pointer (some ⟨BC, 0, none⟩), .string name] w fun e w' => e = .returned (.int .i64 (idxP (isNT name) ts)) ∧ w' = w := by
 have HL := Lib.hid (lenC_ N BC ts w h)
 have hlen := h.len
 obtain ⟨a, c, h1, h2, _⟩ := h.row
 have HI := Lib.hid h2
 obtain ⟨L, hL⟩ : ∃ L, ts.length = L := ⟨_, rfl⟩
 have HLe := Lib.hid hL
 obtain ⟨R, hR⟩ : ∃ R, idxP (isNT name) ts = R := ⟨_, rfl⟩
 have HQ := Lib.hid hR
 rw [hL] at HL h1 hlen
 rw [hR]
 clear h h2 hL hR
 go_enter Tryz.func38, Tryz.ntmps38
 go_wp2_with (first | (go_at_call 67; refine HL.out.mono ?_; rintro e w1 ⟨rfl, rfl⟩) | fail)
 go_loopw [5, 8] (fun s5 iv wr => ∃ i : Nat, i ≤ L ∧ iv = .int .i64 i ∧ wr = w1 ∧ Hid (∀ j (h : j < ts.length), j < i → isNT name ts[j] = false)) (fun _ iv _ => L - (intOf iv).toNat)
 case atStart => exact ⟨0, Nat.zero_le _, rfl, rfl, fun j _ hj => by omega⟩
 case round =>
  obtain ⟨i, hi, rfl, rfl, HV⟩ := hrel
  by_cases hlt : i < L
  · have hlt2 : (i : Int) < (L : Int) := by omega
    have hi1 : i < ts.length := by rw [HLe.out]; exact hlt
    obtain ⟨b, o, rfl, q0, q1⟩ := HI.out i hi1
    have HCi : Hid (isNT name ts[i] = (ts[i].nm.toList == name.toList)) := by show _ = _; rw [beq_lst]; rfl
    generalize ts[i].nm = tn at *
    by_cases he : lst tn = lst name
    · have he2 : (tn.toList == name.toList) = true := by rw [beq_lst, he]; simp
      have HF : Hid (R = (i : Int)) := by show _ = _; rw [← HQ.out]; exact idxP_at hi1 HV.out (by rw [HCi.out]; exact he2)
      clear he HV HCi q1
      go_wp2_with fail
      go_ret
      exact ⟨by rw [HF.out]; rfl, rfl⟩
    · have he2 : (tn.toList == name.toList) = false := beq_ne he
      have HV2 : Hid (∀ j (h : j < ts.length), j < i + 1 → isNT name ts[j] = false) := fun j hj hji => by
       rcases Nat.lt_or_ge j i with hh | hh
       · exact HV.out j hj hh
       · obtain rfl : j = i := by omega
         rw [HCi.out]; exact he2
      clear he HV HCi q1
      go_wp2_with fail
      go_roundw
      case rel => exact ⟨i + 1, by omega, by go_num, by trivial, HV2⟩
      case measure => simp [intOf]; omega
  · obtain rfl : i = L := by omega
    have HF : Hid (R = -1) := by show _ = _; rw [← HQ.out]; exact idxP_none fun j hj => HV.out j hj (by rw [← HLe.out]; exact hj)
    clear HV
    go_wp2_with fail
    go_ret
    exact ⟨by rw [HF.out]; rfl, rfl⟩
def tabI (name : ByteArray) (ts : List TV) : Int := if idxP (isNT name) ts < 0 then 0 else idxP (isNT name) ts
def tabX (name : ByteArray) (ts : List TV) : Int := if idxP (isNT name) ts < 0 then 30 else 0
set_option maxHeartbeats 1000000 in
theorem findC_ (N BC : Nat) (ts : List TV) (name : ByteArray) (w : World) (h : CatIn w N BC ts) : Calls Tryz.prog 71 #[.pointer (some ⟨BC, 0, none⟩), .string name] w fun e w' => e = .returned (.tuple #[.int .i64 (tabI name ts), errV 77 (tabX name ts)]) ∧ w' = w := by
 have HP := Lib.hid (placeC_ N BC ts name w h)
 have hcase := idxP_any (isNT name) ts
 have HI : Hid (tabI name ts = if idxP (isNT name) ts < 0 then 0 else idxP (isNT name) ts) := rfl
 have HX : Hid (tabX name ts = if idxP (isNT name) ts < 0 then 30 else 0) := rfl
 generalize tabI name ts = I at *
 generalize tabX name ts = X at *
 generalize idxP (isNT name) ts = P at *
 generalize ts.any (isNT name) = A at *
 clear h
 rcases hcase with ⟨_, i, rfl, _⟩ | ⟨_, rfl⟩
 · have HF : Hid (I = (i : Int) ∧ X = 0) := ⟨by rw [HI.out, if_neg (by omega)], by rw [HX.out, if_neg (by omega)]⟩
   have h0 : ¬ ((i : Int) < 0) := by omega
   clear HI HX
   go_enter Tryz.func71, Tryz.ntmps71
   go_wp2_with (first | (go_at_call 38; refine HP.out.mono ?_; rintro e w1 ⟨rfl, rfl⟩) | fail)
   exact bodyPost_ret (v := .tuple #[.int .i64 i, .nilIface]) (by simp [results, Tryz.results71, go_sem]) rfl ⟨by rw [HF.out.1, HF.out.2]; rfl, rfl⟩
 · have HF : Hid (I = 0 ∧ X = 30) := ⟨by rw [HI.out]; rfl, by rw [HX.out]; rfl⟩
   clear HI HX
   go_enter Tryz.func71, Tryz.ntmps71
   go_wp2_with (first | (go_at_call 38; refine HP.out.mono ?_; rintro e w1 ⟨rfl, rfl⟩) | fail)
   exact bodyPost_ret (v := .tuple #[.int .i64 0, .iface 77 (.int .i64 30)]) (by simp [results, Tryz.results71, go_sem]) rfl ⟨by rw [HF.out.1, HF.out.2]; rfl, rfl⟩
end Go.Proofs.YtalmanfjiblhcaaGreat.Tb
namespace Go.Proofs.YtalmanfjiblhcaaGreat.Tb
open Go.ChangeShapes Go.WideShapes Go.ChangeAt Go.RowKit
def IsDat {H : Type} (t : TV) (d : DataW H) : Prop := ∃ d1, d = .agg [.lit (.string t.nm.data.toList), d1] ∧ ((d1 = .nil ∧ t.cs = []) ∨ ∃ spare, d1 = .slice (t.cs.map datC) spare)
end Go.Proofs.YtalmanfjiblhcaaGreat.Tb
