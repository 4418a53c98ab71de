/- The document's sectors in memory; appended to a row of one's own; The walks of the document's New, has and filled; The walk of the document's find; The walk of the document's Read; what find tells of the list. -/
import Derived.Test.YtjnhcanohefjiaaGreatDoorJPB
import Derived.Test.YtjnhcanohefjiaaGreatDoorDSure
import Derived.Deep.AppendLies
import Derived.Lib.BufferWrite
namespace Go.Proofs.YtjnhcanohefjiaaGreatDoor
open Go.RowKit Go.Sort Go.Maps

/-- A sector's cells. -/
def rsC (x : RS) : List Value := [.int .i64 x.key.1, .int .i64 x.key.2, .string (bs x.safe), .string (bs x.now), .bool x.pend]
def secC (l : List RS) : List Value := l.flatMap rsC
theorem secC_cons (x : RS) (r : List RS) : secC (x :: r) = rsC x ++ secC r := rfl
theorem secC_append (x y : List RS) : secC (x ++ y) = secC x ++ secC y := by simp [secC]
theorem rsC_len (x : RS) : (rsC x).length = 5 := rfl
theorem secC_len (l : List RS) : (secC l).length = l.length * 5 := by
  induction l with
  | nil => rfl
  | cons x r ih => rw [secC_cons, List.length_append, rsC_len, ih, List.length_cons]; omega
theorem secC_at : ∀ (l : List RS) (i j : Nat) (hi : i < l.length), j < 5 → (secC l)[i * 5 + j]? = (rsC l[i])[j]?
  | x :: r, 0, j, _, hj => by
    rw [secC_cons, List.getElem?_append_left (by rw [rsC_len]; omega)]
    simp
  | x :: r, i + 1, j, hi, hj => by
    rw [secC_cons, List.getElem?_append_right (by rw [rsC_len]; omega), rsC_len, show (i + 1) * 5 + j - 5 = i * 5 + j by omega, secC_at r i j (by simpa using hi) hj]
    simp
/-- A sector at a place. -/
def SecAt (w : World) (b o : Nat) (x : RS) : Prop := ∀ j, j < 5 → w.cell? ⟨b, o + j, none⟩ = (rsC x)[j]?
theorem SecAt.cells {w : World} {b o : Nat} {x : RS} (h : SecAt w b o x) : w.cell? ⟨b, o, none⟩ = some (.int .i64 x.key.1) ∧ w.cell? ⟨b, o + 1, none⟩ = some (.int .i64 x.key.2) ∧ w.cell? ⟨b, o + 2, none⟩ = some (.string (bs x.safe)) ∧ w.cell? ⟨b, o + 3, none⟩ = some (.string (bs x.now)) ∧ w.cell? ⟨b, o + 4, none⟩ = some (.bool x.pend) :=
  ⟨h 0 (by omega), h 1 (by omega), h 2 (by omega), h 3 (by omega), h 4 (by omega)⟩
def SecsIn (w : World) (a : Option Addr) (l : List RS) : Prop := ∀ i (h : i < l.length), ∃ b o, a = some ⟨b, o, none⟩ ∧ SecAt w b (o + i * 5) l[i]
theorem SecAt.on {w w' : World} {b o : Nat} {x : RS} (h : SecAt w b o x) (hb : Below w.heap.size w w') : SecAt w' b o x := by
  intro j hj
  have hv : ∃ v, w.cell? ⟨b, o + j, none⟩ = some v := by
    rw [h j hj]
    exact ⟨_, List.getElem?_eq_getElem (by rw [rsC_len]; exact hj)⟩
  obtain ⟨v, hv⟩ := hv
  exact (hb.cell (block_lt_of_cell hv)).trans (h j hj)
theorem SecsIn.on {w w' : World} {a : Option Addr} {l : List RS} (h : SecsIn w a l) (hb : Below w.heap.size w w') : SecsIn w' a l := fun i hi => by
  obtain ⟨b, o, e, h1⟩ := h i hi
  exact ⟨b, o, e, h1.on hb⟩
theorem secsIn_nil (w : World) (a : Option Addr) : SecsIn w a [] := fun i hi => by simp at hi
theorem secs_none {w : World} {l : List RS} (h : SecsIn w none l) : l = [] := by
  cases l with
  | nil => rfl
  | cons y ys => obtain ⟨_, _, hh, _⟩ := h 0 (by simp); cases hh
theorem SecsIn.news {w : World} {ad : Addr} {l : List RS} (h : SecsIn w (some ad) l) : ∀ j u, (secC l)[j]? = some u → w.cell? (ad.add j) = some u := by
  intro j u hj
  have hjl : j < (secC l).length := by
    rcases Nat.lt_or_ge j (secC l).length with hl | hl
    · exact hl
    · rw [List.getElem?_eq_none hl] at hj; cases hj
  rw [secC_len] at hjl
  obtain ⟨b, o, e, h1⟩ := h (j / 5) (by omega)
  cases e
  rw [Addr.add_lit]
  have h2 := h1 (j % 5) (by omega)
  rw [← secC_at l (j / 5) (j % 5) (by omega) (by omega), show j / 5 * 5 + j % 5 = j by omega, hj, show o + j / 5 * 5 + j % 5 = o + j by omega] at h2
  exact h2
theorem secC_one (l : List RS) : ∀ u ∈ secC l, u.oneCell' = true := by
  intro u hu
  obtain ⟨x, _, hx⟩ := List.mem_flatMap.1 hu
  simp only [rsC, List.mem_cons, List.not_mem_nil, or_false] at hx
  rcases hx with rfl | rfl | rfl | rfl | rfl <;> rfl
/-- A row of the document's sectors that the call has made. -/
def OwnS (w : World) (base : Nat) (v : Value) (l : List RS) : Prop := w.ownsRow base 110 5 v l.length (secC l)
theorem infoS : (Tryz.prog.info? 110).map (fun i => (i.zero, i.size, i.bytes)) = some (some (.agg #[.int .i64 0, .int .i64 0, .string ⟨#[]⟩, .string ⟨#[]⟩, .bool false]), 5, 56) := by kernel_rfl
theorem ownS_nil (w : World) (base : Nat) : OwnS w base (.slice none 0 0) [] := World.ownsRow_nil w base 110 5
theorem OwnS.on {w w' : World} {base : Nat} {v : Value} {l : List RS} (h : OwnS w base v l) (hb : Below w.heap.size w w') : OwnS w' base v l := by
  refine ⟨h.1, ?_⟩
  rcases h.2 with h1 | ⟨g, cap, cur, e, h1, h2, h3, h4, h5, h6⟩
  · exact .inl h1
  · exact .inr ⟨g, cap, cur, e, h1, (hb.block g (blk_lt h2)).trans h2, h3, h4, h5, h6⟩
theorem ownS_join {w : World} {base : Nat} {v : Value} {xs ys : List RS} (h : w.ownsRow base 110 5 v (xs.length + ys.length) (secC xs ++ secC ys)) : OwnS w base v (xs ++ ys) := by
  unfold OwnS
  rw [← secC_append] at h
  rw [List.length_append]
  exact h
theorem below_ownS {N : Nat} {w0 w w' : World} {v : Value} {es : List RS} (hN : N ≤ w0.heap.size) (hb : Below N w0 w) (hown : OwnS w N v es) (hg : w.grownBy w' v.ownBlock) : Below N w0 w' :=
  hb.grown hg (Nat.le_trans hN hb.size) (fun k hk => (World.ownsRow.lt hown k hk).1)
/-- append(row, sectors...). -/
theorem wpList_append_secs (N : Nat) (w w0 : World) {ops : Array Oper} {rest : List Oper} {o : Oper} {act : Act} {Q : Exit → Act → World → Prop} (hgd : o.guard = none) (s x : Operand)
    (ho : o.op = .call { callee := .builtin .append, args := #[s, x], argTypes := #[31, 31] }) (v : Value) (es ys : List RS) (hs : act.eval s = v) (hown : OwnS w N v es)
    (a : Option Addr) (m c : Nat) (hx : act.eval x = .slice a m c) (hm : ys.length = m) (hnil : a = none → c = 0) (hin : SecsIn w a ys) (hlen : es.length + ys.length ≤ 1000000) (hN : N ≤ w0.heap.size) (hb : Below N w0 w)
    (hK : ∀ v' w', OwnS w' N v' (es ++ ys) → Below N w0 w' → w.grownBy w' v.ownBlock → wpList Tryz.prog ops Q rest (act.put o.dst v') w') : wpList Tryz.prog ops Q (o :: rest) act w := by
  have hbase := Nat.le_trans hN hb.size
  obtain ⟨i0, hi, hz0, hz1, hz2⟩ := info_parts infoS
  subst hm
  refine wpList_plain hgd fun K hKK => ?_
  cases a with
  | none =>
    obtain rfl := secs_none hin
    obtain rfl := hnil rfl
    have hrun := run_append_owned_none (P := Tryz.prog) w N 31 o.type 110 i0 5 Tryz.underlying31 hi _ _ _ hown
    unfold Oper.wp
    simp only [List.length_nil] at hx
    simp [execOp, ho, resolve, invoke, builtin, hs, hx, hrun, Result.andThen]
    exact hKK _ _ (hK v w (by rw [List.append_nil]; exact hown) hb ⟨rfl, rfl, rfl, Nat.le_refl _, fun _ _ _ => rfl⟩)
  | some ad =>
    obtain ⟨v', w', hr, h2, h3, _⟩ := run_append_own_at (P := Tryz.prog) w N 31 o.type 110 i0 (.agg #[.int .i64 0, .int .i64 0, .string ⟨#[]⟩, .string ⟨#[]⟩, .bool false]) 5 56 Tryz.underlying31 hi hz0 hz1 hz2 rfl (by decide) v es.length (secC es) hown ad ys.length c (secC ys) (by rw [secC_len]) hin.news (secC_one ys) (by unfold maxLen; omega) (by omega) hbase
    unfold Oper.wp execOp
    simp only [ho, resolve, invoke, builtin, Sem.run_bind, Sem.run_pure, Result.andThen_ok, List.map_toArray, List.map_cons, List.map_nil, hs, hx, hr]
    exact hKK _ _ (hK v' w' (ownS_join h2) (below_ownS hN hb hown h3) h3)
/-- A list of the document's in memory. -/
def LstS (w : World) (a : Option Addr) (c : Nat) (l : List RS) : Prop := SecsIn w a l ∧ l.length ≤ c ∧ ((a = none ∧ c = 0) ∨ ∃ b o cs z, a = some ⟨b, o, none⟩ ∧ w.heap[b]? = some (.cells cs 110 z))
theorem lstS_nil (w : World) : LstS w none 0 [] := ⟨secsIn_nil _ _, Nat.le_refl _, .inl ⟨rfl, rfl⟩⟩
theorem OwnS.lst {w : World} {base : Nat} {v : Value} {l : List RS} (h : OwnS w base v l) : ∃ a c, v = .slice a l.length c ∧ LstS w a c l := by
  rcases h.2 with ⟨rfl, e⟩ | ⟨g, cap, cur, rfl, _, hg, h3, h4, _, ht⟩
  · have : l = [] := List.eq_nil_of_length_eq_zero e
    subst this
    exact ⟨none, 0, rfl, lstS_nil _⟩
  · refine ⟨_, _, rfl, fun i hi => ⟨g, 0, rfl, fun j hj => ?_⟩, h3, .inr ⟨g, 0, _, _, rfl, hg⟩⟩
    rw [Nat.zero_add, ← secC_at l i j hi hj, ← ht, List.getElem?_take_of_lt (by omega), Array.getElem?_toList]
    simp [World.cell?, hg]
/-- It stays where its block stays. -/
theorem LstS.stay {w w' : World} {a : Option Addr} {c : Nat} {l : List RS} (h : LstS w a c l) (hk : ∀ (k : Nat) (cs : Array Value) (z : Nat × Nat), w.heap[k]? = some (.cells cs 110 z) → w'.heap[k]? = w.heap[k]?) : LstS w' a c l := by
  obtain ⟨h1, h2, h4⟩ := h
  rcases h4 with ⟨rfl, rfl⟩ | ⟨b, o, cs, z, rfl, h4⟩
  · obtain rfl := secs_none h1
    exact lstS_nil _
  · have hbl := hk b cs z h4
    refine ⟨fun i hi => ?_, h2, .inr ⟨b, o, cs, z, rfl, hbl.trans h4⟩⟩
    obtain ⟨b', o', e', k1⟩ := h1 i hi
    cases e'
    exact ⟨b, o, rfl, fun j hj => (cell_block hbl).trans (k1 j hj)⟩
theorem LstS.on {w w' : World} {a : Option Addr} {c : Nat} {l : List RS} (h : LstS w a c l) (hb : Below w.heap.size w w') : LstS w' a c l := h.stay fun k _ _ hk => hb.block k (blk_lt hk)
/-- .. while the device is worked on. -/
theorem LstS.fd {w w' : World} {p aa bb K : Nat} {d : Dev} {a : Option Addr} {c : Nat} {l : List RS} (h : LstS w a c l) (hd : DevIn w p aa bb d K) (hf : Fd p aa bb w w') : LstS w' a c l :=
  h.stay fun k cs z hk => hf.block k (blk_lt hk)
    (fun e => by rw [e, hd.blk] at hk; simp only [Option.some.injEq, Obj.cells.injEq] at hk; exact absurd hk.2.1 (by decide))
    (fun e => by obtain ⟨es, cl, hm⟩ := hd.mapA; rw [e, hm] at hk; cases hk)
    (fun e => by obtain ⟨es, cl, hm⟩ := hd.mapB; rw [e, hm] at hk; cases hk)
theorem SecsIn.take {w : World} {a : Option Addr} {l : List RS} (h : SecsIn w a l) (k : Nat) : SecsIn w a (l.take k) := by
  intro i hi
  have hi' : i < l.length := by rw [List.length_take] at hi; omega
  obtain ⟨b, o, e, h1⟩ := h i hi'
  exact ⟨b, o, e, by rw [List.getElem_take]; exact h1⟩
theorem SecsIn.drop {w : World} {b o : Nat} {l : List RS} (h : SecsIn w (some ⟨b, o, none⟩) l) (k : Nat) : SecsIn w (some ⟨b, o + k * 5, none⟩) (l.drop k) := by
  intro i hi
  have hi' : k + i < l.length := by rw [List.length_drop] at hi; omega
  obtain ⟨b', o', e, h1⟩ := h (k + i) hi'
  cases e
  refine ⟨b, o + k * 5, rfl, ?_⟩
  rw [List.getElem_drop, show o + k * 5 + i * 5 = o + (k + i) * 5 by omega]
  exact h1
/-- One sector, in a block of its own. -/
theorem sec_one {w : World} {b : Nat} {x : RS} {t : TypeId} {z : Nat × Nat} (h : w.heap[b]? = some (.cells (rsC x).toArray t z)) : SecsIn w (some ⟨b, 0, none⟩) [x] := by
  intro i hi
  simp at hi
  subst hi
  refine ⟨b, 0, rfl, fun j hj => ?_⟩
  simp [World.cell?, h]
/-- A device of the document's, as a value and as a block. -/
def rdC (x : RD) (a : Option Addr) (n c : Nat) : Array Value := #[.int .i64 x.r, .int .i64 x.s, .slice a n c, .bool x.crashed, .bool x.armed, .int .i64 x.left]
def rdV (x : RD) (a : Option Addr) (c : Nat) : Value := .agg (rdC x a x.l.length c)
theorem infoRD : (Tryz.prog.info? 33).map (·.size) = some 6 := by kernel_rfl
/-- Structs of the document's, loaded and stored whole. -/
theorem load_rd {w : World} {b : Nat} {cs : Array Value} (h : w.heap[b]? = some (.cells cs 33 (0, 0))) (hc : cs.size = 6) : (Instr.loadAt 33 (.pointer (some ⟨b, 0, none⟩))).run Tryz.prog w = .ok (.agg cs) w := by
  simp only [Instr.loadAt, Instr.sureAddr, Sem.run_bind, Sem.run_pure, Result.andThen]
  exact run_loadVar_row w b 33 33 _ (0, 0) _ h Tryz.underlying33 rfl (by rw [hc]; exact infoRD)
theorem loadVar_rd {w : World} {b : Nat} {cs : Array Value} (h : w.heap[b]? = some (.cells cs 33 (0, 0))) (hc : cs.size = 6) : (loadVar 33 ⟨b, 0, none⟩).run Tryz.prog w = .ok (.agg cs) w :=
  run_loadVar_row w b 33 33 _ (0, 0) _ h Tryz.underlying33 rfl (by rw [hc]; exact infoRD)
/-- A device handed back, with a number or alone. -/
theorem results_rd {fn : Func} {p q : Tmp} (h : fn.results = #[.cell p 33, .tmp q]) (tmps : Array Value) (w : World) (b : Nat) (cs : Array Value) (v : Value) (hp : tmps.getD p undef = .pointer (some ⟨b, 0, none⟩)) (hq : tmps.getD q undef = v) (hb : w.heap[b]? = some (.cells cs 33 (0, 0))) (hc : cs.size = 6) :
    (results fn tmps).run Tryz.prog w = .ok (.tuple #[.agg cs, v]) w := by
  have hl := loadVar_rd hb hc
  simp only [results, h]
  rw [Array.getD_eq_getD_getElem?] at hp hq
  simp [Result.andThen, hp, hq, asAddr, hl]
theorem results_rd1 {fn : Func} {p : Tmp} (h : fn.results = #[.cell p 33]) (tmps : Array Value) (w : World) (b : Nat) (cs : Array Value) (hp : tmps.getD p undef = .pointer (some ⟨b, 0, none⟩)) (hb : w.heap[b]? = some (.cells cs 33 (0, 0))) (hc : cs.size = 6) :
    (results fn tmps).run Tryz.prog w = .ok (.agg cs) w := by
  have hl := loadVar_rd hb hc
  simp only [results, h]
  rw [Array.getD_eq_getD_getElem?] at hp
  simp [hp, asAddr, hl]
theorem alloc_at (w : World) (o : Obj) : (w.alloc o).heap[w.heap.size]? = some o := World.alloc_heap_new' w o
theorem alloc_old {w : World} {k : Nat} {o o' : Obj} (h : w.heap[k]? = some o') : (w.alloc o).heap[k]? = some o' := ((below_alloc w o).block k (blk_lt h)).trans h
theorem below_set {N b o : Nat} {w0 w : World} (h : Below N w0 w) (hb : N ≤ b) (v : Value) : Below N w0 (w.setCell ⟨b, o, none⟩ v) := h.setCell hb v
end Go.Proofs.YtjnhcanohefjiaaGreatDoor

namespace Go.Proofs.YtjnhcanohefjiaaGreatDoor
open Go.RowKit Go.Sort Go.Maps

set_option maxRecDepth 100000 in
set_option maxHeartbeats 1000000 in
theorem rnew_ (r s : Int) (w : World) (h : 1 ≤ r ∧ r ≤ 16 ∧ 1 ≤ s ∧ s ≤ 16384) :
    Calls Tryz.prog 6 #[.int .i64 r, .int .i64 s] w fun e w' => e = .returned (.tuple #[rdV (newR r s) none 0, .int .i64 0]) ∧ Below w.heap.size w w' := by
  have h1 : decide (r < 1) = false := decide_eq_false (by omega)
  have h2 : decide (r > 16) = false := decide_eq_false (by omega)
  have h3 : decide (s < 1) = false := decide_eq_false (by omega)
  have h4 : decide (s > 16384) = false := decide_eq_false (by omega)
  clear h
  unfold rdV rdC newR
  go_enter Tryz.func6, Tryz.ntmps6
  go_wp2_with fail
  exact bodyPost_ret (results_rd rfl _ _ w.heap.size _ _ rfl rfl (alloc_at w _) rfl) rfl ⟨rfl, below_alloc w _⟩
set_option maxHeartbeats 1000000 in
theorem rhas_ (r s lf : Int) (v : Value) (cr ar : Bool) (g j : Int) (w : World) :
    Calls Tryz.prog 55 #[.agg #[.int .i64 r, .int .i64 s, v, .bool cr, .bool ar, .int .i64 lf], .int .i64 g, .int .i64 j] w fun e w' => e = .returned (.bool (decide (0 ≤ g ∧ g < r ∧ 0 ≤ j ∧ j < s))) ∧ Below w.heap.size w w' := by
  have HB := Lib.hid (below_alloc w (.cells #[.int .i64 r, .int .i64 s, v, .bool cr, .bool ar, .int .i64 lf] 33))
  by_cases h1 : 0 ≤ g
  · have k1 : decide (g ≥ 0) = true := decide_eq_true h1
    by_cases h2 : g < r
    · have k2 : decide (g < r) = true := decide_eq_true h2
      by_cases h3 : 0 ≤ j
      · have k3 : decide (j ≥ 0) = true := decide_eq_true h3
        by_cases h4 : j < s
        · have k4 : decide (j < s) = true := decide_eq_true h4
          rw [decide_eq_true ⟨h1, h2, h3, h4⟩]
          go_enter Tryz.func55, Tryz.ntmps55
          go_wp2_with fail
          go_ret
          exact ⟨rfl, HB.out⟩
        · have k4 : decide (j < s) = false := decide_eq_false h4
          rw [decide_eq_false (fun e => h4 e.2.2.2)]
          go_enter Tryz.func55, Tryz.ntmps55
          go_wp2_with fail
          go_ret
          exact ⟨rfl, HB.out⟩
      · have k3 : decide (j ≥ 0) = false := decide_eq_false h3
        rw [decide_eq_false (fun e => h3 e.2.2.1)]
        go_enter Tryz.func55, Tryz.ntmps55
        go_wp2_with fail
        go_ret
        exact ⟨rfl, HB.out⟩
    · have k2 : decide (g < r) = false := decide_eq_false h2
      rw [decide_eq_false (fun e => h2 e.2.1)]
      go_enter Tryz.func55, Tryz.ntmps55
      go_wp2_with fail
      go_ret
      exact ⟨rfl, HB.out⟩
  · have k1 : decide (g ≥ 0) = false := decide_eq_false h1
    rw [decide_eq_false (fun e => h1 e.1)]
    go_enter Tryz.func55, Tryz.ntmps55
    go_wp2_with fail
    go_ret
    exact ⟨rfl, HB.out⟩
theorem byteCells_bs {xs : List Nat} (h : ∀ x ∈ xs, x < 256) : Lib.byteCells (bs xs).data.toList = vals xs := by
  unfold Lib.byteCells bs vals
  simp only [List.map_map]
  refine List.map_congr_left fun x hx => ?_
  have := h x hx
  simp [Nat.mod_eq_of_lt this]
set_option maxRecDepth 100000 in
theorem copy_bs {w : World} {g : Nat} {xs : List Nat} (ty : TypeId) (hg : w.heap[g]? = some (.cells (vals zeroC).toArray 5 (0, 0))) (hx : ∀ x ∈ xs, x < 256) (hl : xs.length ≤ 64) :
    (Builtin.copy_ #[53, 9] ty #[.slice (some ⟨g, 0, none⟩) 64 64, .string (bs xs)]).run Tryz.prog w = .ok (goInt xs.length) (w.setRow g (vals (fillC xs)).toArray) := by
  have := Lib.run_copy_row_string (P := Tryz.prog) w 53 9 ty 5 g 0 64 64 (bs xs) _ 5 Tryz.underlying53 sizeB hg (by rw [bs_size]; exact hl) (by rw [bs_size, List.size_toArray, vals_len, zero_len]; omega)
  rw [this, byteCells_bs hx, bs_size, ← fill_splice xs]
  congr 2
  simp [splice, vals_len]
set_option maxRecDepth 100000 in
set_option maxHeartbeats 1000000 in
theorem rfilled_ (xs : List Nat) (w : World) (hx : ∀ x ∈ xs, x < 256) (hl : xs.length ≤ 64) :
    Calls Tryz.prog 57 #[.string (bs xs)] w fun e w' => e = .returned (.string (bs (fillC xs))) ∧ Below w.heap.size w w' := by
  obtain ⟨i0, hi0, hz0, hz1, hz2⟩ := info_parts infoB
  have HC : Hid (∀ (W : World) (ty : TypeId), W.heap[w.heap.size]? = some (.cells (vals zeroC).toArray 5 (0, 0)) → (Builtin.copy_ #[53, 9] ty #[.slice (some ⟨w.heap.size, 0, none⟩) 64 64, .string (bs xs)]).run Tryz.prog W = .ok (goInt xs.length) (W.setRow w.heap.size (vals (fillC xs)).toArray)) := fun W ty hW => copy_bs ty hW hx hl
  have HF := Lib.hid (fill_len hl)
  generalize bs xs = sx at *
  generalize xs.length = nx at *
  clear hx hl
  go_enter Tryz.func57, Tryz.ntmps57
  go_wp2_with (first
    | (at_make; refine wpList_make_full _ rfl _ _ 53 rfl w.heap.size 5 i0 (.int .u8 0) 1 Tryz.underlying53 hi0 hz0 hz1 .i64 .i64 _ _ 64 rfl rfl rfl rfl (by rw [hz2]; omega) (by unfold maxLen; omega) (Nat.le_refl _) ?_
       intro W3 hown3 hgrow3
       have hb3 := Lib.hid (made_block hown3)
       have hB3 : Hid (Below w.heap.size w W3) := below_grown_none hgrow3
       have hcp := HC.out W3 3 hb3.out
       have hg4 := Lib.hid (setRow_heap W3 w.heap.size _ (vals (fillC xs)).toArray 5 (0, 0) hb3.out)
       have hB4 := Lib.hid (below_setRow hB3.out (Nat.le_refl _) (vals (fillC xs)).toArray)
       have hcv : (convert 53 9 (.slice (some ⟨w.heap.size, 0, none⟩) 64 64)).run Tryz.prog (W3.setRow w.heap.size (vals (fillC xs)).toArray) = .ok (.string (bs (fillC xs))) (W3.setRow w.heap.size (vals (fillC xs)).toArray) := conv_ _ _ 64 64 _ HF.out.symm (ct_bytes 5 hg4.out)
       clear hown3 hgrow3 hb3 hB3
       generalize W3.setRow w.heap.size (vals (fillC xs)).toArray = W4 at *)
    | fail)
  go_ret
  exact ⟨rfl, hB4.out⟩
end Go.Proofs.YtjnhcanohefjiaaGreatDoor

namespace Go.Proofs.YtjnhcanohefjiaaGreatDoor
open Go.RowKit Go.Sort Go.Maps

/-- Where a sector stands in the list, or where it belongs. -/
structure FindIs (l : List RS) (k : Pl) (i : Nat) (is : Bool) : Prop where
  le : i ≤ l.length
  lt : ∀ x ∈ l.take i, ltP x.key k
  ge : ∀ h : i < l.length, ¬ ltP l[i].key k
  is : is = true ↔ ∃ h : i < l.length, l[i].key = k
set_option maxRecDepth 100000 in
set_option maxHeartbeats 4000000 in
theorem rfind_ (r s lf : Int) (cr ar : Bool) (a : Option Addr) (L c : Nat) (l : List RS) (g j : Int) (w : World) (hL : L = l.length) (h : SecsIn w a l) (hl : L ≤ 1000000) :
    Calls Tryz.prog 56 #[.agg #[.int .i64 r, .int .i64 s, .slice a L c, .bool cr, .bool ar, .int .i64 lf], .int .i64 g, .int .i64 j] w fun e w' => (∃ (i : Nat) (is : Bool), e = .returned (.tuple #[.int .i64 (i : Int), .bool is]) ∧ FindIs l (g, j) i is) ∧ Below w.heap.size w w' := by
  obtain ⟨W, hW⟩ : ∃ W, W = w.alloc (.cells #[.int .i64 r, .int .i64 s, .slice a L c, .bool cr, .bool ar, .int .i64 lf] 33) := ⟨_, rfl⟩
  have hB : Below w.heap.size w W := by rw [hW]; exact below_alloc w _
  have hg : W.heap[w.heap.size]? = some (.cells #[.int .i64 r, .int .i64 s, .slice a L c, .bool cr, .bool ar, .int .i64 lf] 33 (0, 0)) := by rw [hW]; exact alloc_at w _
  have c2 : W.cell? ⟨w.heap.size, 2, none⟩ = some (.slice a L c) := cell_of hg rfl
  have HI := Lib.hid (h.on hB)
  have HL := Lib.hid hL
  have HB := Lib.hid hB
  have HW := Lib.hid hW
  clear h hL hB hg hW
  go_enter Tryz.func56, Tryz.ntmps56
  go_wp2_with fail
  rw [← HW.out]
  clear HW
  go_loopw [8] (fun iv wr => ∃ i : Nat, i ≤ L ∧ iv = .int .i64 i ∧ wr = W ∧ Hid (∀ x ∈ l.take i, ltP x.key (g, j))) (fun iv _ => L - (intOf iv).toNat)
  case atStart => exact ⟨0, Nat.zero_le _, rfl, rfl, fun y hy => by simp at hy⟩
  case round =>
    obtain ⟨i, hi, rfl, rfl, HN⟩ := hrel
    by_cases hlt : i < L
    · have hlt2 : (i : Int) < (L : Int) := by omega
      have hi2 : i < l.length := by rw [← HL.out]; exact hlt
      obtain ⟨b, o, rfl, hs⟩ := HI.out i hi2
      obtain ⟨q0, q1, _, _, _⟩ := hs.cells
      clear hs
      have HS1 : Hid (ltP (l[i]).key (g, j) → ∀ x ∈ l.take (i + 1), ltP x.key (g, j)) := by
        intro hx x hm
        rw [List.take_succ_eq_append_getElem hi2] at hm
        rcases List.mem_append.1 hm with hm | hm
        · exact HN.out x hm
        · simp at hm; subst hm; exact hx
      have HE1 : Hid (∀ is : Bool, ¬ ltP (l[i]).key (g, j) → (is = true ↔ (l[i]).key = (g, j)) → FindIs l (g, j) i is) := fun is hn his => ⟨by omega, HN.out, fun _ => hn, his.trans ⟨fun e => ⟨hi2, e⟩, fun ⟨_, e⟩ => e⟩⟩
      generalize hkk : (l[i]).key = kk at *
      obtain ⟨x1, x2⟩ := kk
      simp only at q0 q1
      clear hkk HN HI
      by_cases h1 : x1 < g
      · have k1 : decide (x1 < g) = true := decide_eq_true h1
        have HN1 := Lib.hid (HS1.out (.inl h1))
        clear HS1 HE1
        go_wp2_with fail
        go_roundw
        case rel => exact ⟨i + 1, by omega, by go_num, trivial, HN1⟩
        case measure => simp [intOf]; omega
      · have k1 : decide (x1 < g) = false := decide_eq_false h1
        by_cases h2 : x1 = g
        · have k2 : (x1 == g) = true := by simpa using h2
          by_cases h3 : x2 < j
          · have k3 : decide (x2 < j) = true := decide_eq_true h3
            have HN1 := Lib.hid (HS1.out (.inr ⟨h2, h3⟩))
            clear HS1 HE1 h2
            go_wp2_with fail
            go_roundw
            case rel => exact ⟨i + 1, by omega, by go_num, trivial, HN1⟩
            case measure => simp [intOf]; omega
          · have k3 : decide (x2 < j) = false := decide_eq_false h3
            have HF : Hid (FindIs l (g, j) i (x2 == j)) := HE1.out _ (by unfold ltP; simp only; omega) (by simp only [beq_iff_eq, Prod.mk.injEq]; omega)
            clear HS1 HE1 h2
            generalize hbb : (x2 == j) = bb at *
            go_wp2_with fail
            go_quiet (fail)
            have HB1 := Lib.hid (below_drewN HB.out nq)
            go_wp2_with fail
            go_ret2
            exact ⟨⟨i, bb, rfl, HF.out⟩, HB1.out⟩
        · have k2 : (x1 == g) = false := by simpa using h2
          have HF : Hid (FindIs l (g, j) i false) := HE1.out _ (by unfold ltP; simp only; omega) (by simp only [Bool.false_eq_true, false_iff, Prod.mk.injEq]; omega)
          clear HS1 HE1 h2
          go_wp2_with fail
          go_quiet (fail)
          have HB1 := Lib.hid (below_drewN HB.out nq)
          go_wp2_with fail
          go_ret2
          exact ⟨⟨i, false, rfl, HF.out⟩, HB1.out⟩
    · obtain rfl : i = L := by omega
      have HF : Hid (FindIs l (g, j) i false) := ⟨by have := HL.out; omega, HN.out, fun h => by have := HL.out; omega, by simp only [Bool.false_eq_true, false_iff, not_exists]; intro h; have := HL.out; omega⟩
      go_wp2_with fail
      go_quiet (fail)
      have HB1 := Lib.hid (below_drewN HB.out nq)
      go_wp2_with fail
      go_ret2
      exact ⟨⟨i, false, rfl, HF.out⟩, HB1.out⟩
end Go.Proofs.YtjnhcanohefjiaaGreatDoor

namespace Go.Proofs.YtjnhcanohefjiaaGreatDoor
open Go.RowKit Go.Sort Go.Maps

theorem take_drop_at {l : List RS} {i : Nat} (h : i < l.length) : l = l.take i ++ l[i] :: l.drop (i + 1) := by
  rw [← List.drop_eq_getElem_cons h, List.take_append_drop]
theorem find_yes {l : List RS} {k : Pl} {i : Nat} (h : FindIs l k i true) : ∃ hi : i < l.length, l[i].key = k ∧ findR l k = some l[i] := by
  obtain ⟨hi, e⟩ := h.is.1 rfl
  refine ⟨hi, e, ?_⟩
  have := findR_split (l.drop i) k h.lt
  rw [List.take_append_drop, List.drop_eq_getElem_cons hi, findR_cons, if_pos e] at this
  exact this
theorem find_gt {l : List RS} {k : Pl} {i : Nat} (h : FindIs l k i false) (hi : i < l.length) : ltP k l[i].key := by
  rcases ltP_total k l[i].key with e | e | e
  · exact e
  · exact absurd (h.is.2 ⟨hi, e.symm⟩) (by simp)
  · exact absurd e (h.ge hi)
theorem find_no {l : List RS} {k : Pl} {i : Nat} (h : FindIs l k i false) (hs : SrtR l) : findR l k = none := by
  have := findR_split (l.drop i) k h.lt
  rw [List.take_append_drop] at this
  rw [this]
  refine findR_none fun x hx => ?_
  have hi : i < l.length := by
    rcases Nat.lt_or_ge i l.length with hh | hh
    · exact hh
    · rw [List.drop_eq_nil_of_le hh] at hx; cases hx
  have hg := find_gt h hi
  rw [List.drop_eq_getElem_cons hi] at hx
  rcases List.mem_cons.1 hx with rfl | hx
  · exact Ne.symm (ltP_ne hg)
  · have hp := hs
    rw [take_drop_at hi] at hp
    have := (List.pairwise_cons.1 (List.pairwise_append.1 hp).2.1).1 x hx
    exact Ne.symm (ltP_ne (ltP_trans hg this))
theorem put_yes {l : List RS} {k : Pl} {i : Nat} (h : FindIs l k i true) (hi : i < l.length) (c : Ct) : putR l k c = l.take i ++ [⟨k, l[i].safe, c, true⟩] ++ l.drop (i + 1) := by
  obtain ⟨_, e⟩ := h.is.1 rfl
  have := putR_split (l.drop i) k c h.lt
  rw [List.take_append_drop] at this
  rw [this, List.drop_eq_getElem_cons hi]
  unfold putR
  rw [if_neg (by rw [e]; exact ltP_irrefl k), if_pos e.symm]
  simp
theorem put_no {l : List RS} {k : Pl} {i : Nat} (h : FindIs l k i false) (c : Ct) : putR l k c = l.take i ++ [⟨k, zeroC, c, true⟩] ++ l.drop i := by
  have := putR_split (l.drop i) k c h.lt
  rw [List.take_append_drop] at this
  rw [this]
  rcases Nat.lt_or_ge i l.length with hi | hi
  · rw [List.drop_eq_getElem_cons hi]
    unfold putR
    rw [if_pos (find_gt h hi)]
    simp
  · rw [List.drop_eq_nil_of_le hi]
    simp [putR]
/-- The six cells of a device of the document's. -/
theorem rd_cells {w : World} {b : Nat} {r s lf : Int} {v : Value} {cr ar : Bool} {t : TypeId} {z : Nat × Nat} (h : w.heap[b]? = some (.cells #[.int .i64 r, .int .i64 s, v, .bool cr, .bool ar, .int .i64 lf] t z)) :
    w.cell? ⟨b, 0, none⟩ = some (.int .i64 r) ∧ w.cell? ⟨b, 1, none⟩ = some (.int .i64 s) ∧ w.cell? ⟨b, 2, none⟩ = some v ∧ w.cell? ⟨b, 3, none⟩ = some (.bool cr) ∧ w.cell? ⟨b, 4, none⟩ = some (.bool ar) ∧ w.cell? ⟨b, 5, none⟩ = some (.int .i64 lf) :=
  ⟨cell_of h rfl, cell_of h rfl, cell_of h rfl, cell_of h rfl, cell_of h rfl, cell_of h rfl⟩
def hasR (r s : Int) (k : Pl) : Bool := decide (0 ≤ k.1 ∧ k.1 < r ∧ 0 ≤ k.2 ∧ k.2 < s)
/-- What the document's Read answers. -/
def ReadTo (w : World) (l : List RS) (k : Pl) (hb cr : Bool) (e : Ending) (w' : World) : Prop :=
  e = .returned (.tuple #[.string (if hb = false then bs [] else if cr = true then bs [] else bs (readR l k)), .int .i64 (if hb = false then 1 else if cr = true then 60 else 0)]) ∧ Below w.heap.size w w'
set_option maxRecDepth 100000 in
set_option maxHeartbeats 4000000 in
theorem rread_ (r s lf : Int) (cr ar : Bool) (a : Option Addr) (L c : Nat) (l : List RS) (k : Pl) (w : World) (hL : L = l.length) (h : SecsIn w a l) (hl : L ≤ 1000000) (hs : SrtR l) :
    Calls Tryz.prog 29 #[.agg #[.int .i64 r, .int .i64 s, .slice a L c, .bool cr, .bool ar, .int .i64 lf], .int .i64 k.1, .int .i64 k.2] w (ReadTo w l k (hasR r s k) cr) := by
  obtain ⟨g, j⟩ := k
  have HH : Hid (∀ V : World, Calls Tryz.prog 55 #[.agg #[.int .i64 r, .int .i64 s, .slice a L c, .bool cr, .bool ar, .int .i64 lf], .int .i64 g, .int .i64 j] V fun e w' => e = .returned (.bool (hasR r s (g, j))) ∧ Below V.heap.size V w') := fun V => rhas_ r s lf _ cr ar g j V
  have HF : Hid (∀ V : World, Below w.heap.size w V → Calls Tryz.prog 56 #[.agg #[.int .i64 r, .int .i64 s, .slice a L c, .bool cr, .bool ar, .int .i64 lf], .int .i64 g, .int .i64 j] V fun e w' => (∃ (i : Nat) (is : Bool), e = .returned (.tuple #[.int .i64 (i : Int), .bool is]) ∧ FindIs l (g, j) i is) ∧ Below V.heap.size V w') := fun V hV => rfind_ r s lf cr ar a L c l g j V hL (h.on hV) hl
  have HI := Lib.hid h
  have HL := Lib.hid hL
  have HS := Lib.hid hs
  have HZ : Hid (∀ V : World, Calls Tryz.prog 57 #[.string ⟨#[]⟩] V fun e w' => e = .returned (.string (bs zeroC)) ∧ Below V.heap.size V w') := fun V => rfilled_ [] V (fun x hx => by simp at hx) (by simp)
  obtain ⟨W, hW⟩ : ∃ W, W = w.alloc (.cells #[.int .i64 r, .int .i64 s, .slice a L c, .bool cr, .bool ar, .int .i64 lf] 33) := ⟨_, rfl⟩
  have HB : Hid (Below w.heap.size w W) := by rw [hW]; exact below_alloc w _
  have HG : Hid (W.heap[w.heap.size]? = some (.cells #[.int .i64 r, .int .i64 s, .slice a L c, .bool cr, .bool ar, .int .i64 lf] 33 (0, 0))) := by rw [hW]; exact alloc_at w _
  have HW := Lib.hid hW
  clear h hL hs hW
  unfold ReadTo
  dsimp only
  generalize hasR r s (g, j) = hb at *
  go_enter Tryz.func29, Tryz.ntmps29
  go_wp2_with fail
  rw [← HW.out]
  clear HW
  refine (HH.out W).mono ?_
  rintro e w1 ⟨rfl, hb1⟩
  have HB1 := Lib.hid (below_step HB.out hb1)
  have HG1 := Lib.hid ((hb1.block _ (blk_lt HG.out)).trans HG.out)
  clear hb1 HB HG HH
  obtain ⟨c0, c1, c2, c3, c4, c5⟩ := rd_cells HG1.out
  cases hb
  · go_wp2_with fail
    go_ret2
    exact ⟨rfl, HB1.out⟩
  · cases cr
    · go_wp2_with fail
      refine (HF.out w1 HB1.out).mono ?_
      rintro e w2 ⟨⟨i, is, rfl, hfi⟩, hb2⟩
      have HB2 := Lib.hid (below_step HB1.out hb2)
      have HG2 := Lib.hid ((hb2.block _ (blk_lt HG1.out)).trans HG1.out)
      have HFI := Lib.hid hfi
      clear hb2 hfi HB1 HG1 HF c0 c1 c2 c3 c4 c5
      obtain ⟨c0, c1, c2, c3, c4, c5⟩ := rd_cells HG2.out
      cases is
      · have hrd : readR l (g, j) = zeroC := by unfold readR; rw [find_no HFI.out HS.out]
        have HRD : Hid (bs (readR l (g, j)) = bs zeroC) := by rw [hrd]; rfl
        clear hrd
        generalize bs zeroC = z at *
        go_wp2_with fail
        refine (HZ.out w2).mono ?_
        rintro e w3 ⟨rfl, hb3⟩
        have HB3 := Lib.hid (below_step HB2.out hb3)
        clear hb3
        go_wp2_with fail
        go_ret2
        exact ⟨by simp [HRD.out], HB3.out⟩
      · obtain ⟨hi, hk, hfr⟩ := find_yes HFI.out
        obtain ⟨b, o, rfl, hsec⟩ := (HI.out.on HB2.out) i hi
        obtain ⟨_, _, q2, q3, q4⟩ := hsec.cells
        have hiL : (i : Int) < (L : Int) := by rw [HL.out]; omega
        have hrd : readR l (g, j) = if (l[i]).pend = true then (l[i]).now else (l[i]).safe := by unfold readR; rw [hfr]
        clear hsec hfr hk
        generalize (l[i]).pend = pe at *
        generalize (l[i]).now = no at *
        generalize (l[i]).safe = sa at *
        cases pe
        · have HRD : Hid (bs (readR l (g, j)) = bs sa) := by rw [hrd]; rfl
          clear hrd
          generalize bs sa = sa' at *
          go_wp2_with fail
          go_ret2
          exact ⟨by simp [HRD.out], HB2.out⟩
        · have HRD : Hid (bs (readR l (g, j)) = bs no) := by rw [hrd]; rfl
          clear hrd
          generalize bs no = no' at *
          go_wp2_with fail
          go_ret2
          exact ⟨by simp [HRD.out], HB2.out⟩
    · go_wp2_with fail
      go_ret2
      exact ⟨rfl, HB1.out⟩
end Go.Proofs.YtjnhcanohefjiaaGreatDoor
