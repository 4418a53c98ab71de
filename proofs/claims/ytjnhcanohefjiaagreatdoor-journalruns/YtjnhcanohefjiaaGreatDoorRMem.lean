/- The document's sectors in memory; appended to a row of one's own. -/
import Derived.Test.YtjnhcanohefjiaaGreatDoorRMath
import Derived.Test.YtjnhcanohefjiaaGreatDoorDSure
import Derived.Deep.AppendLies
namespace Go.Proofs.YtjnhcanohefjiaaGreatDoor
open Go.RowKit Go.Sort Go.Maps

/-- A sector's cells. -/
def rsC (x : RS) : List Value := [.int .i64 x.key.1, .int .i64 x.key.2, .string (bs x.safe), .string (bs x.now), .bool x.pend]
def secC (l : List RS) : List Value := l.flatMap rsC
theorem secC_cons (x : RS) (r : List RS) : secC (x :: r) = rsC x ++ secC r := rfl
theorem secC_append (x y : List RS) : secC (x ++ y) = secC x ++ secC y := by simp [secC]
theorem rsC_len (x : RS) : (rsC x).length = 5 := rfl
theorem secC_len (l : List RS) : (secC l).length = l.length * 5 := by
  induction l with
  | nil => rfl
  | cons x r ih => rw [secC_cons, List.length_append, rsC_len, ih, List.length_cons]; omega
theorem secC_at : ∀ (l : List RS) (i j : Nat) (hi : i < l.length), j < 5 → (secC l)[i * 5 + j]? = (rsC l[i])[j]?
  | x :: r, 0, j, _, hj => by
    rw [secC_cons, List.getElem?_append_left (by rw [rsC_len]; omega)]
    simp
  | x :: r, i + 1, j, hi, hj => by
    rw [secC_cons, List.getElem?_append_right (by rw [rsC_len]; omega), rsC_len, show (i + 1) * 5 + j - 5 = i * 5 + j by omega, secC_at r i j (by simpa using hi) hj]
    simp
/-- A sector at a place. -/
def SecAt (w : World) (b o : Nat) (x : RS) : Prop := ∀ j, j < 5 → w.cell? ⟨b, o + j, none⟩ = (rsC x)[j]?
theorem SecAt.cells {w : World} {b o : Nat} {x : RS} (h : SecAt w b o x) : w.cell? ⟨b, o, none⟩ = some (.int .i64 x.key.1) ∧ w.cell? ⟨b, o + 1, none⟩ = some (.int .i64 x.key.2) ∧ w.cell? ⟨b, o + 2, none⟩ = some (.string (bs x.safe)) ∧ w.cell? ⟨b, o + 3, none⟩ = some (.string (bs x.now)) ∧ w.cell? ⟨b, o + 4, none⟩ = some (.bool x.pend) :=
  ⟨h 0 (by omega), h 1 (by omega), h 2 (by omega), h 3 (by omega), h 4 (by omega)⟩
def SecsIn (w : World) (a : Option Addr) (l : List RS) : Prop := ∀ i (h : i < l.length), ∃ b o, a = some ⟨b, o, none⟩ ∧ SecAt w b (o + i * 5) l[i]
theorem SecAt.on {w w' : World} {b o : Nat} {x : RS} (h : SecAt w b o x) (hb : Below w.heap.size w w') : SecAt w' b o x := by
  intro j hj
  have hv : ∃ v, w.cell? ⟨b, o + j, none⟩ = some v := by
    rw [h j hj]
    exact ⟨_, List.getElem?_eq_getElem (by rw [rsC_len]; exact hj)⟩
  obtain ⟨v, hv⟩ := hv
  exact (hb.cell (block_lt_of_cell hv)).trans (h j hj)
theorem SecsIn.on {w w' : World} {a : Option Addr} {l : List RS} (h : SecsIn w a l) (hb : Below w.heap.size w w') : SecsIn w' a l := fun i hi => by
  obtain ⟨b, o, e, h1⟩ := h i hi
  exact ⟨b, o, e, h1.on hb⟩
theorem secsIn_nil (w : World) (a : Option Addr) : SecsIn w a [] := fun i hi => by simp at hi
theorem secs_none {w : World} {l : List RS} (h : SecsIn w none l) : l = [] := by
  cases l with
  | nil => rfl
  | cons y ys => obtain ⟨_, _, hh, _⟩ := h 0 (by simp); cases hh
theorem SecsIn.news {w : World} {ad : Addr} {l : List RS} (h : SecsIn w (some ad) l) : ∀ j u, (secC l)[j]? = some u → w.cell? (ad.add j) = some u := by
  intro j u hj
  have hjl : j < (secC l).length := by
    rcases Nat.lt_or_ge j (secC l).length with hl | hl
    · exact hl
    · rw [List.getElem?_eq_none hl] at hj; cases hj
  rw [secC_len] at hjl
  obtain ⟨b, o, e, h1⟩ := h (j / 5) (by omega)
  cases e
  rw [Addr.add_lit]
  have h2 := h1 (j % 5) (by omega)
  rw [← secC_at l (j / 5) (j % 5) (by omega) (by omega), show j / 5 * 5 + j % 5 = j by omega, hj, show o + j / 5 * 5 + j % 5 = o + j by omega] at h2
  exact h2
theorem secC_one (l : List RS) : ∀ u ∈ secC l, u.oneCell' = true := by
  intro u hu
  obtain ⟨x, _, hx⟩ := List.mem_flatMap.1 hu
  simp only [rsC, List.mem_cons, List.not_mem_nil, or_false] at hx
  rcases hx with rfl | rfl | rfl | rfl | rfl <;> rfl
/-- A row of the document's sectors that the call has made. -/
def OwnS (w : World) (base : Nat) (v : Value) (l : List RS) : Prop := w.ownsRow base 110 5 v l.length (secC l)
theorem infoS : (Tryz.prog.info? 110).map (fun i => (i.zero, i.size, i.bytes)) = some (some (.agg #[.int .i64 0, .int .i64 0, .string ⟨#[]⟩, .string ⟨#[]⟩, .bool false]), 5, 56) := by kernel_rfl
theorem ownS_nil (w : World) (base : Nat) : OwnS w base (.slice none 0 0) [] := World.ownsRow_nil w base 110 5
theorem OwnS.on {w w' : World} {base : Nat} {v : Value} {l : List RS} (h : OwnS w base v l) (hb : Below w.heap.size w w') : OwnS w' base v l := by
  refine ⟨h.1, ?_⟩
  rcases h.2 with h1 | ⟨g, cap, cur, e, h1, h2, h3, h4, h5, h6⟩
  · exact .inl h1
  · exact .inr ⟨g, cap, cur, e, h1, (hb.block g (blk_lt h2)).trans h2, h3, h4, h5, h6⟩
theorem ownS_join {w : World} {base : Nat} {v : Value} {xs ys : List RS} (h : w.ownsRow base 110 5 v (xs.length + ys.length) (secC xs ++ secC ys)) : OwnS w base v (xs ++ ys) := by
  unfold OwnS
  rw [← secC_append] at h
  rw [List.length_append]
  exact h
theorem below_ownS {N : Nat} {w0 w w' : World} {v : Value} {es : List RS} (hN : N ≤ w0.heap.size) (hb : Below N w0 w) (hown : OwnS w N v es) (hg : w.grownBy w' v.ownBlock) : Below N w0 w' :=
  hb.grown hg (Nat.le_trans hN hb.size) (fun k hk => (World.ownsRow.lt hown k hk).1)
/-- append(row, sectors...). -/
theorem wpList_append_secs (N : Nat) (w w0 : World) {ops : Array Oper} {rest : List Oper} {o : Oper} {act : Act} {Q : Exit → Act → World → Prop} (hgd : o.guard = none) (s x : Operand)
    (ho : o.op = .call { callee := .builtin .append, args := #[s, x], argTypes := #[31, 31] }) (v : Value) (es ys : List RS) (hs : act.eval s = v) (hown : OwnS w N v es)
    (a : Option Addr) (m c : Nat) (hx : act.eval x = .slice a m c) (hm : ys.length = m) (hnil : a = none → c = 0) (hin : SecsIn w a ys) (hlen : es.length + ys.length ≤ 1000000) (hN : N ≤ w0.heap.size) (hb : Below N w0 w)
    (hK : ∀ v' w', OwnS w' N v' (es ++ ys) → Below N w0 w' → w.grownBy w' v.ownBlock → wpList Tryz.prog ops Q rest (act.put o.dst v') w') : wpList Tryz.prog ops Q (o :: rest) act w := by
  have hbase := Nat.le_trans hN hb.size
  obtain ⟨i0, hi, hz0, hz1, hz2⟩ := info_parts infoS
  subst hm
  refine wpList_plain hgd fun K hKK => ?_
  cases a with
  | none =>
    obtain rfl := secs_none hin
    obtain rfl := hnil rfl
    have hrun := run_append_owned_none (P := Tryz.prog) w N 31 o.type 110 i0 5 Tryz.underlying31 hi _ _ _ hown
    unfold Oper.wp
    simp only [List.length_nil] at hx
    simp [execOp, ho, resolve, invoke, builtin, hs, hx, hrun, Result.andThen]
    exact hKK _ _ (hK v w (by rw [List.append_nil]; exact hown) hb ⟨rfl, rfl, rfl, Nat.le_refl _, fun _ _ _ => rfl⟩)
  | some ad =>
    obtain ⟨v', w', hr, h2, h3, _⟩ := run_append_own_at (P := Tryz.prog) w N 31 o.type 110 i0 (.agg #[.int .i64 0, .int .i64 0, .string ⟨#[]⟩, .string ⟨#[]⟩, .bool false]) 5 56 Tryz.underlying31 hi hz0 hz1 hz2 rfl (by decide) v es.length (secC es) hown ad ys.length c (secC ys) (by rw [secC_len]) hin.news (secC_one ys) (by unfold maxLen; omega) (by omega) hbase
    unfold Oper.wp execOp
    simp only [ho, resolve, invoke, builtin, Sem.run_bind, Sem.run_pure, Result.andThen_ok, List.map_toArray, List.map_cons, List.map_nil, hs, hx, hr]
    exact hKK _ _ (hK v' w' (ownS_join h2) (below_ownS hN hb hown h3) h3)
/-- A list of the document's in memory. -/
def LstS (w : World) (a : Option Addr) (c : Nat) (l : List RS) : Prop := SecsIn w a l ∧ l.length ≤ c ∧ ((a = none ∧ c = 0) ∨ ∃ b o cs z, a = some ⟨b, o, none⟩ ∧ w.heap[b]? = some (.cells cs 110 z))
theorem lstS_nil (w : World) : LstS w none 0 [] := ⟨secsIn_nil _ _, Nat.le_refl _, .inl ⟨rfl, rfl⟩⟩
theorem OwnS.lst {w : World} {base : Nat} {v : Value} {l : List RS} (h : OwnS w base v l) : ∃ a c, v = .slice a l.length c ∧ LstS w a c l := by
  rcases h.2 with ⟨rfl, e⟩ | ⟨g, cap, cur, rfl, _, hg, h3, h4, _, ht⟩
  · have : l = [] := List.eq_nil_of_length_eq_zero e
    subst this
    exact ⟨none, 0, rfl, lstS_nil _⟩
  · refine ⟨_, _, rfl, fun i hi => ⟨g, 0, rfl, fun j hj => ?_⟩, h3, .inr ⟨g, 0, _, _, rfl, hg⟩⟩
    rw [Nat.zero_add, ← secC_at l i j hi hj, ← ht, List.getElem?_take_of_lt (by omega), Array.getElem?_toList]
    simp [World.cell?, hg]
/-- It stays where its block stays. -/
theorem LstS.stay {w w' : World} {a : Option Addr} {c : Nat} {l : List RS} (h : LstS w a c l) (hk : ∀ (k : Nat) (cs : Array Value) (z : Nat × Nat), w.heap[k]? = some (.cells cs 110 z) → w'.heap[k]? = w.heap[k]?) : LstS w' a c l := by
  obtain ⟨h1, h2, h4⟩ := h
  rcases h4 with ⟨rfl, rfl⟩ | ⟨b, o, cs, z, rfl, h4⟩
  · obtain rfl := secs_none h1
    exact lstS_nil _
  · have hbl := hk b cs z h4
    refine ⟨fun i hi => ?_, h2, .inr ⟨b, o, cs, z, rfl, hbl.trans h4⟩⟩
    obtain ⟨b', o', e', k1⟩ := h1 i hi
    cases e'
    exact ⟨b, o, rfl, fun j hj => (cell_block hbl).trans (k1 j hj)⟩
theorem LstS.on {w w' : World} {a : Option Addr} {c : Nat} {l : List RS} (h : LstS w a c l) (hb : Below w.heap.size w w') : LstS w' a c l := h.stay fun k _ _ hk => hb.block k (blk_lt hk)
/-- .. while the device is worked on. -/
theorem LstS.fd {w w' : World} {p aa bb K : Nat} {d : Dev} {a : Option Addr} {c : Nat} {l : List RS} (h : LstS w a c l) (hd : DevIn w p aa bb d K) (hf : Fd p aa bb w w') : LstS w' a c l :=
  h.stay fun k cs z hk => hf.block k (blk_lt hk)
    (fun e => by rw [e, hd.blk] at hk; simp only [Option.some.injEq, Obj.cells.injEq] at hk; exact absurd hk.2.1 (by decide))
    (fun e => by obtain ⟨es, cl, hm⟩ := hd.mapA; rw [e, hm] at hk; cases hk)
    (fun e => by obtain ⟨es, cl, hm⟩ := hd.mapB; rw [e, hm] at hk; cases hk)
theorem SecsIn.take {w : World} {a : Option Addr} {l : List RS} (h : SecsIn w a l) (k : Nat) : SecsIn w a (l.take k) := by
  intro i hi
  have hi' : i < l.length := by rw [List.length_take] at hi; omega
  obtain ⟨b, o, e, h1⟩ := h i hi'
  exact ⟨b, o, e, by rw [List.getElem_take]; exact h1⟩
theorem SecsIn.drop {w : World} {b o : Nat} {l : List RS} (h : SecsIn w (some ⟨b, o, none⟩) l) (k : Nat) : SecsIn w (some ⟨b, o + k * 5, none⟩) (l.drop k) := by
  intro i hi
  have hi' : k + i < l.length := by rw [List.length_drop] at hi; omega
  obtain ⟨b', o', e, h1⟩ := h (k + i) hi'
  cases e
  refine ⟨b, o + k * 5, rfl, ?_⟩
  rw [List.getElem_drop, show o + k * 5 + i * 5 = o + (k + i) * 5 by omega]
  exact h1
/-- One sector, in a block of its own. -/
theorem sec_one {w : World} {b : Nat} {x : RS} {t : TypeId} {z : Nat × Nat} (h : w.heap[b]? = some (.cells (rsC x).toArray t z)) : SecsIn w (some ⟨b, 0, none⟩) [x] := by
  intro i hi
  simp at hi
  subst hi
  refine ⟨b, 0, rfl, fun j hj => ?_⟩
  simp [World.cell?, h]
/-- A device of the document's, as a value and as a block. -/
def rdC (x : RD) (a : Option Addr) (n c : Nat) : Array Value := #[.int .i64 x.r, .int .i64 x.s, .slice a n c, .bool x.crashed, .bool x.armed, .int .i64 x.left]
def rdV (x : RD) (a : Option Addr) (c : Nat) : Value := .agg (rdC x a x.l.length c)
theorem infoRD : (Tryz.prog.info? 33).map (·.size) = some 6 := by kernel_rfl
theorem infoRS : (Tryz.prog.info? 110).map (·.size) = some 5 := by kernel_rfl
/-- Structs of the document's, loaded and stored whole. -/
theorem load_rd {w : World} {b : Nat} {cs : Array Value} (h : w.heap[b]? = some (.cells cs 33 (0, 0))) (hc : cs.size = 6) : (Instr.loadAt 33 (.pointer (some ⟨b, 0, none⟩))).run Tryz.prog w = .ok (.agg cs) w := by
  simp only [Instr.loadAt, Instr.sureAddr, Sem.run_bind, Sem.run_pure, Result.andThen]
  exact run_loadVar_row w b 33 33 _ (0, 0) _ h Tryz.underlying33 rfl (by rw [hc]; exact infoRD)
theorem loadVar_rd {w : World} {b : Nat} {cs : Array Value} (h : w.heap[b]? = some (.cells cs 33 (0, 0))) (hc : cs.size = 6) : (loadVar 33 ⟨b, 0, none⟩).run Tryz.prog w = .ok (.agg cs) w :=
  run_loadVar_row w b 33 33 _ (0, 0) _ h Tryz.underlying33 rfl (by rw [hc]; exact infoRD)
theorem store_rd {w : World} {b : Nat} {old cs : Array Value} (h : w.heap[b]? = some (.cells old 33 (0, 0))) (ho : old.size = 6) (hc : cs.size = 6) (h1 : cs.all (·.oneCell') = true) : (Instr.storeAt 33 (.pointer (some ⟨b, 0, none⟩)) (.agg cs)).run Tryz.prog w = .ok () (w.setRow b cs) := by
  simp only [Instr.storeAt, Instr.sureAddr, Sem.run_bind, Sem.run_pure, Result.andThen]
  exact run_storeVar_row w b 33 33 _ _ h (by rw [hc]; exact infoRD) (ho.trans hc.symm) h1
theorem load_rs {w : World} {b : Nat} {cs : Array Value} (h : w.heap[b]? = some (.cells cs 110 (0, 0))) (hc : cs.size = 5) : (Instr.loadAt 110 (.pointer (some ⟨b, 0, none⟩))).run Tryz.prog w = .ok (.agg cs) w := by
  simp only [Instr.loadAt, Instr.sureAddr, Sem.run_bind, Sem.run_pure, Result.andThen]
  exact run_loadVar_row w b 110 110 _ (0, 0) _ h Tryz.underlying110 rfl (by rw [hc]; exact infoRS)
theorem store_rs {w : World} {b : Nat} {old cs : Array Value} (h : w.heap[b]? = some (.cells old 110 (0, 0))) (ho : old.size = 5) (hc : cs.size = 5) (h1 : cs.all (·.oneCell') = true) : (Instr.storeAt 110 (.pointer (some ⟨b, 0, none⟩)) (.agg cs)).run Tryz.prog w = .ok () (w.setRow b cs) := by
  simp only [Instr.storeAt, Instr.sureAddr, Sem.run_bind, Sem.run_pure, Result.andThen]
  exact run_storeVar_row w b 110 110 _ _ h (by rw [hc]; exact infoRS) (ho.trans hc.symm) h1
/-- A device handed back, with a number or alone. -/
theorem results_rd {fn : Func} {p q : Tmp} (h : fn.results = #[.cell p 33, .tmp q]) (tmps : Array Value) (w : World) (b : Nat) (cs : Array Value) (v : Value) (hp : tmps.getD p undef = .pointer (some ⟨b, 0, none⟩)) (hq : tmps.getD q undef = v) (hb : w.heap[b]? = some (.cells cs 33 (0, 0))) (hc : cs.size = 6) :
    (results fn tmps).run Tryz.prog w = .ok (.tuple #[.agg cs, v]) w := by
  have hl := loadVar_rd hb hc
  simp only [results, h]
  rw [Array.getD_eq_getD_getElem?] at hp hq
  simp [Result.andThen, hp, hq, asAddr, hl]
theorem results_rd1 {fn : Func} {p : Tmp} (h : fn.results = #[.cell p 33]) (tmps : Array Value) (w : World) (b : Nat) (cs : Array Value) (hp : tmps.getD p undef = .pointer (some ⟨b, 0, none⟩)) (hb : w.heap[b]? = some (.cells cs 33 (0, 0))) (hc : cs.size = 6) :
    (results fn tmps).run Tryz.prog w = .ok (.agg cs) w := by
  have hl := loadVar_rd hb hc
  simp only [results, h]
  rw [Array.getD_eq_getD_getElem?] at hp
  simp [hp, asAddr, hl]
theorem alloc_at (w : World) (o : Obj) : (w.alloc o).heap[w.heap.size]? = some o := World.alloc_heap_new' w o
theorem alloc_old {w : World} {k : Nat} {o o' : Obj} (h : w.heap[k]? = some o') : (w.alloc o).heap[k]? = some o' := ((below_alloc w o).block k (blk_lt h)).trans h
theorem below_set {N b o : Nat} {w0 w : World} (h : Below N w0 w) (hb : N ≤ b) (v : Value) : Below N w0 (w.setCell ⟨b, o, none⟩ v) := h.setCell hb v
end Go.Proofs.YtjnhcanohefjiaaGreatDoor
