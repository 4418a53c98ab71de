/- The document's journal, and its Room; Structs within blocks, loaded and stored; the document's journal in memory: its ends lie in a row that nobody writes to. -/
import Derived.Test.YtjnhcanohefjiaaGreatDoorJJA
import Derived.Test.YtjnhcanohefjiaaGreatDoorJRE
import Derived.BigQuiet
import Derived.Deep.MidRow
namespace Go.Proofs.YtjnhcanohefjiaaGreatDoor
open Go.RowKit Go.Sort Go.Maps

/-- The document's journal as a value: the ends lie in a row that nobody writes to. -/
def rjV (J : Jr) (ea : Option Addr) (ec : Nat) : Value := .agg #[.int .i64 J.a.g, .int .i64 J.a.f, .int .i64 J.a.s, .int .u64 J.ep, .string (bs J.row), .slice ea J.ends.length ec, .int .i64 (J.upto J.sf : Nat), .int .i64 (J.pss.length - J.sf : Nat), .int .i64 (J.dead : Nat)]
set_option maxRecDepth 100000 in
set_option maxHeartbeats 400000 in
theorem rroom_ {J : Jr} (hok : okJ J) (ea : Option Addr) (ec : Nat) (w : World) :
    Calls Tryz.prog 15 #[rjV J ea ec] w fun e w' => e = .returned (.int .i64 (64 * J.a.s - (J.row.length : Nat))) ∧ Below w.heap.size w w' := by
  have hl : (bs J.row).size = J.row.length := bs_size _
  have h1 := hok.len
  have h2 := hok.s
  unfold rjV
  generalize J.a.g = g at *
  generalize J.a.f = f at *
  generalize J.a.s = s at *
  generalize J.ep = ep at *
  generalize bs J.row = row at *
  generalize J.row.length = L at *
  generalize J.ends.length = en at *
  generalize J.upto J.sf = sf at *
  generalize J.pss.length - J.sf = wt at *
  generalize J.dead = dd at *
  have h3 : (L : Int) ≤ 64 * s := by omega
  have h4 : 64 * s ≤ 1048576 := by omega
  have h5 : 1 ≤ s := by omega
  clear hok h1 h2
  have hw1 := wraps_i64 (64 * s) (by omega) (by omega)
  have hw2 := wraps_i64 (64 * s - (L : Int)) (by omega) (by omega)
  go_enter Tryz.func15, Tryz.ntmps15
  go_wp2_with fail
  go_ret
  exact ⟨rfl, below_alloc w _⟩
end Go.Proofs.YtjnhcanohefjiaaGreatDoor

namespace Go.Proofs.YtjnhcanohefjiaaGreatDoor
open Go.RowKit Go.Sort Go.Maps

/-- One block written over, all else as it was. -/
structure Put (w : World) (b : Nat) (cs : Array Value) (t : TypeId) (w' : World) : Prop where
  blk : w'.heap[b]? = some (.cells cs t (0, 0))
  far : ∀ k, k ≠ b → w'.heap[k]? = w.heap[k]?
  size : w'.heap.size = w.heap.size
  os : w'.os = w.os
  tape : w'.tape = w.tape
  output : w'.output = w.output
theorem Put.below {N : Nat} {w0 w w' : World} {b : Nat} {cs : Array Value} {t : TypeId} (h : Put w b cs t w') (hb : Below N w0 w) (hN : N ≤ b) : Below N w0 w' :=
  ⟨h.os.trans hb.os, h.tape.trans hb.tape, h.output.trans hb.output, by rw [h.size]; exact hb.size, fun k hk => (h.far k (by omega)).trans (hb.block k hk)⟩
theorem Put.ext {M : Nat → Prop} {w w' : World} {b : Nat} {cs : Array Value} {t : TypeId} (h : Put w b cs t w') : Ext (fun k => M k ∨ k = b) (fun k => M k ∨ k = b) w w' :=
  ⟨h.os, h.tape, h.output, by rw [h.size]; exact Nat.le_refl _, fun k _ hn => h.far k (fun e => hn (.inr e)), fun _ h => .inl h⟩
def putA : Array Value → Nat → List Value → Array Value
  | cs, _, [] => cs
  | cs, o, v :: r => putA (cs.setIfInBounds o v) (o + 1) r
theorem heap_setCells (b : Nat) (t : TypeId) (z : Nat × Nat) : ∀ (vs : List Value) (o : Nat) (w : World) (cs : Array Value), w.heap[b]? = some (.cells cs t z) → (w.setCells b o vs).heap[b]? = some (.cells (putA cs o vs) t z) ∧ (∀ k, k ≠ b → (w.setCells b o vs).heap[k]? = w.heap[k]?) ∧ (w.setCells b o vs).heap.size = w.heap.size ∧ (w.setCells b o vs).os = w.os ∧ (w.setCells b o vs).tape = w.tape ∧ (w.setCells b o vs).output = w.output
  | [], o, w, cs, h => ⟨h, fun _ _ => rfl, rfl, rfl, rfl, rfl⟩
  | v :: r, o, w, cs, h => by
    obtain ⟨h1, h2, h3, h4, h5, h6⟩ := heap_setCells b t z r (o + 1) (w.setCell ⟨b, o, none⟩ v) (cs.setIfInBounds o v) (heap_set v h)
    refine ⟨h1, fun k hk => (h2 k hk).trans (heap_far v hk), h3.trans (by simp [World.setCell]), h4.trans rfl, h5.trans rfl, h6.trans rfl⟩
theorem there_of {w : World} {b o n : Nat} {cs : Array Value} {t : TypeId} (h : w.heap[b]? = some (.cells cs t (0, 0))) (hn : o + n ≤ cs.size) : w.there b o n := fun j hj => by
  refine ⟨?_, frozen_of h⟩
  rw [cell_of h (Array.getElem?_eq_getElem (by omega : o + j < cs.size))]; rfl
/-- A struct stored within a block. -/
theorem store_mid {w : World} {b : Nat} {old : Array Value} {t : TypeId} (h : w.heap[b]? = some (.cells old t (0, 0))) (ty : TypeId) (o : Nat) (cells new : Array Value) (hn : o + cells.size ≤ old.size) (hi : (Tryz.prog.info? ty).map (·.size) = some cells.size) (h1 : cells.all (·.oneCell') = true) (hnew : putA old o cells.toList = new) :
    ∃ w', (Instr.storeAt ty (.pointer (some ⟨b, o, none⟩)) (.agg cells)).run Tryz.prog w = .ok () w' ∧ Put w b new t w' := by
  refine ⟨_, run_storeAt_mid w b o ty cells (there_of h hn) hi h1, ?_⟩
  obtain ⟨h1, h2, h3, h4, h5, h6⟩ := heap_setCells b t (0, 0) cells.toList o w old h
  exact ⟨by rw [h1, hnew], h2, h3, h4, h5, h6⟩
/-- A struct loaded out of a block. -/
theorem load_mid {w : World} {b : Nat} {cs : Array Value} {t : TypeId} {z : Nat × Nat} (h : w.heap[b]? = some (.cells cs t z)) (ty : TypeId) (o : Nat) (part : Array Value) (d : TypeDesc) (hu : Tryz.prog.underlying ty = some d) (hd : d.isRow = true) (hi : (Tryz.prog.info? ty).map (·.size) = some part.size) (hp : (cs.toList.drop o).take part.size = part.toList) :
    (Instr.loadAt ty (.pointer (some ⟨b, o, none⟩))).run Tryz.prog w = .ok (.agg part) w := by
  have := run_loadAt_mid (P := Tryz.prog) w b o ty part.toList d (fun j v hv => by
    refine cell_of h ?_
    rw [← hp, List.getElem?_take] at hv
    split at hv
    · rw [List.getElem?_drop] at hv
      rw [← Array.getElem?_toList]
      exact hv
    · cases hv) hu hd (by simpa using hi)
  simpa using this
theorem infoJ9 : (Tryz.prog.info? 43).map (·.size) = some 9 := by kernel_rfl
theorem infoA3 : (Tryz.prog.info? 23).map (·.size) = some 3 := by kernel_rfl
theorem infoP3 : (Tryz.prog.info? 36).map (·.size) = some 3 := by kernel_rfl
theorem infoW17 : (Tryz.prog.info? 49).map (·.size) = some 17 := by kernel_rfl
/-- The document's journal as cells. -/
abbrev rjC (g f s : Int) (ep : Nat) (row : ByteArray) (ea : Option Addr) (en ec sf wt dd : Nat) : Array Value := #[.int .i64 g, .int .i64 f, .int .i64 s, .int .u64 ep, .string row, .slice ea en ec, .int .i64 (sf : Nat), .int .i64 (wt : Nat), .int .i64 (dd : Nat)]
theorem rj_one (g f s : Int) (ep : Nat) (row : ByteArray) (ea : Option Addr) (en ec sf wt dd : Nat) : (rjC g f s ep row ea en ec sf wt dd).all (·.oneCell') = true := by simp [Value.oneCell']
theorem load_rj {w : World} {b : Nat} {cs : Array Value} (h : w.heap[b]? = some (.cells cs 43 (0, 0))) (hc : cs.size = 9) : (Instr.loadAt 43 (.pointer (some ⟨b, 0, none⟩))).run Tryz.prog w = .ok (.agg cs) w :=
  load_mid h 43 0 cs _ Tryz.underlying43 rfl (by rw [hc]; exact infoJ9) (by rw [List.drop_zero, List.take_of_length_le (by simp)])
theorem store_all {w : World} {b n : Nat} {old cs : Array Value} {t : TypeId} (h : w.heap[b]? = some (.cells old t (0, 0))) (ho : old.size = n) (hc : cs.size = n) (hi : (Tryz.prog.info? t).map (·.size) = some n) (h1 : cs.all (·.oneCell') = true) : ∃ w', (Instr.storeAt t (.pointer (some ⟨b, 0, none⟩)) (.agg cs)).run Tryz.prog w = .ok () w' ∧ Put w b cs t w' := by
  refine ⟨w.setRow b cs, ?_, setRow_heap w b _ cs t (0, 0) h, fun k hk => setRow_other w b k cs hk, by simp [World.setRow], rfl, rfl, rfl⟩
  simp only [Instr.storeAt, Instr.sureAddr, Sem.run_bind, Sem.run_pure, Result.andThen]
  exact run_storeVar_row w b t t _ _ h (by rw [hc]; exact hi) (ho.trans hc.symm) h1
theorem put_rd {w : World} {b : Nat} {old cs : Array Value} (h : w.heap[b]? = some (.cells old 33 (0, 0))) (ho : old.size = 6) (hc : cs.size = 6) (h1 : cs.all (·.oneCell') = true) : ∃ w', (Instr.storeAt 33 (.pointer (some ⟨b, 0, none⟩)) (.agg cs)).run Tryz.prog w = .ok () w' ∧ Put w b cs 33 w' := store_all h ho hc infoRD h1
theorem put_rj {w : World} {b : Nat} {old cs : Array Value} (h : w.heap[b]? = some (.cells old 43 (0, 0))) (ho : old.size = 9) (hc : cs.size = 9) (h1 : cs.all (·.oneCell') = true) : ∃ w', (Instr.storeAt 43 (.pointer (some ⟨b, 0, none⟩)) (.agg cs)).run Tryz.prog w = .ok () w' ∧ Put w b cs 43 w' := store_all h ho hc infoJ9 h1
/-- The document's ends: none of them among the blocks M. -/
def EndsF (w : World) (M : Nat → Prop) (ea : Option Addr) (es : List Nat) : Prop := ∀ i, i < es.length → ∃ b o, ea = some ⟨b, o, none⟩ ∧ w.cell? ⟨b, o + i, none⟩ = some (.int .i64 (es.getD i 0 : Nat)) ∧ ¬ M b
theorem EndsF.on {w w' : World} {M : Nat → Prop} {ea : Option Addr} {es : List Nat} (h : EndsF w M ea es) (hb : Below w.heap.size w w') : EndsF w' M ea es := fun i hi => by
  obtain ⟨b, o, e, h1, h2⟩ := h i hi
  exact ⟨b, o, e, (hb.cell (block_lt_of_cell h1)).trans h1, h2⟩
theorem EndsF.ext {w w' : World} {M M' : Nat → Prop} {ea : Option Addr} {es : List Nat} (h : EndsF w M ea es) (he : Ext M M' w w') : EndsF w' M' ea es := fun i hi => by
  obtain ⟨b, o, e, h1, h2⟩ := h i hi
  have hl := block_lt_of_cell h1
  refine ⟨b, o, e, ?_, fun q => ?_⟩
  · have := he.block b hl h2
    rw [← h1]
    simp [World.cell?, this]
  · rcases he.new b q with q | q
    · exact h2 q
    · exact absurd hl (Nat.not_lt.2 q)
theorem EndsF.take {w : World} {M : Nat → Prop} {ea : Option Addr} {es : List Nat} (h : EndsF w M ea es) (n : Nat) : EndsF w M ea (es.take n) := fun i hi => by
  rw [List.length_take] at hi
  obtain ⟨b, o, e, h1, h2⟩ := h i (by omega)
  refine ⟨b, o, e, ?_, h2⟩
  rw [h1, List.getD_eq_getElem?_getD, List.getD_eq_getElem?_getD, List.getElem?_take, if_pos (by omega)]
theorem endsF_nil (w : World) (M : Nat → Prop) (ea : Option Addr) : EndsF w M ea [] := fun i hi => by simp at hi
theorem endsF_own {w : World} {M : Nat → Prop} {base : Nat} {v : Value} {es : List Nat} (h : OwnI w base v es) (hM : ∀ k, M k → k < base) : ∃ ea ec, v = .slice ea es.length ec ∧ EndsF w M ea es := by
  obtain ⟨a, c, e, h1⟩ := h.slice
  refine ⟨a, c, e, fun i hi => ?_⟩
  obtain ⟨b, o, e1, e2⟩ := h1 i hi
  refine ⟨b, o, e1, e2, fun q => ?_⟩
  have hown : v.ownBlock = some b := by
    rcases h.2 with ⟨e3, _⟩ | ⟨g, cap, cur, e3, _⟩
    · rw [e3] at e; injection e with e4; rw [← e4] at e1; cases e1
    · rw [e3] at e ⊢
      injection e with e4
      rw [← e4] at e1
      injection e1 with e5
      injection e5 with e6
      rw [e6]; rfl
  have := (World.ownsRow.lt h b hown).1
  have := hM b q
  omega
theorem EndsF.news {w : World} {M : Nat → Prop} {ea : Option Addr} {es : List Nat} (h : EndsF w M ea es) : ∀ b, ea = some b → ∀ j u, (valsI es)[j]? = some u → w.cell? (b.add j) = some u := by
  intro b hb j u hj
  have hl : j < es.length := by
    rcases Nat.lt_or_ge j es.length with q | q
    · exact q
    · rw [List.getElem?_eq_none (by simpa [valsI] using q)] at hj; cases hj
  obtain ⟨b', o, e, h1, _⟩ := h j hl
  rw [hb] at e
  cases e
  rw [Addr.add_lit, h1]
  simp [valsI, List.getElem?_map, List.getElem?_eq_getElem hl, List.getD_eq_getElem?_getD] at hj ⊢
  exact hj
end Go.Proofs.YtjnhcanohefjiaaGreatDoor
