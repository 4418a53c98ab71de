/- What the document's Flush, Rewind and Cut hand back. -/
import Derived.Test.YtjnhcanohefjiaaGreatDoorRjAppend
import Derived.Test.YtjnhcanohefjiaaGreatDoorRjClean
namespace Go.Proofs.YtjnhcanohefjiaaGreatDoor
open Go.RowKit Go.Sort Go.Maps

/-- What they hand back: the journal, the device, the error's number. -/
def RjdTo (w : World) (M : Nat → Prop) (d : Dev) (J : Jr) (E : Nat) (e : Ending) (w' : World) : Prop :=
  ∃ x a' c' ea ec, e = .returned (.tuple #[rjV J ea ec, rdV x a' c', .int .i64 (E : Nat)]) ∧ LstS w' a' c' x.l ∧ Tie d x ∧ EdF w' M ea ec J.ends ∧ Below w.heap.size w w'
/-- The document's device, tied to the one. -/
structure RSt (w : World) (d : Dev) (x : RD) (al : Option Addr) (cl : Nat) : Prop where
  ls : LstS w al cl x.l
  tie : Tie d x
  ok : okD d
  rs : d.r = 2 ∧ d.s = 12
  lf : 0 ≤ d.left ∧ d.left ≤ 9223372036854775807
theorem RSt.on {w w' : World} {d : Dev} {x : RD} {al : Option Addr} {cl : Nat} (h : RSt w d x al cl) (hb : Below w.heap.size w w') : RSt w' d x al cl := ⟨h.ls.on hb, h.tie, h.ok, h.rs, h.lf⟩
theorem RSt.len {w : World} {d : Dev} {x : RD} {al : Option Addr} {cl : Nat} (h : RSt w d x al cl) : x.l.length ≤ 1000 := Nat.le_trans (tie_len h.tie h.rs) (by decide)
theorem four_at (w : World) (o1 o2 o3 o4 : Obj) : ((((w.alloc o1).alloc o2).alloc o3).alloc o4).heap[w.heap.size]? = some o1 ∧ ((((w.alloc o1).alloc o2).alloc o3).alloc o4).heap[w.heap.size + 1]? = some o2 ∧ ((((w.alloc o1).alloc o2).alloc o3).alloc o4).heap[w.heap.size + 1 + 1]? = some o3 ∧ ((((w.alloc o1).alloc o2).alloc o3).alloc o4).heap[w.heap.size + 1 + 1 + 1]? = some o4 ∧ Below w.heap.size w ((((w.alloc o1).alloc o2).alloc o3).alloc o4) := by
  obtain ⟨h1, h2, h3⟩ := heap3w w o1 o2 o3
  have h4 := alloc_at (((w.alloc o1).alloc o2).alloc o3) o4
  simp only [World.size_alloc] at h4
  exact ⟨alloc_old h1, alloc_old h2, alloc_old h3, h4, below_step (below3w w o1 o2 o3) (below_alloc _ _)⟩
/-- The four blocks that they begin with. -/
structure Four (w W : World) (j d : Array Value) : Prop where
  j : W.heap[w.heap.size]? = some (.cells j 43 (0, 0))
  d : W.heap[w.heap.size + 1]? = some (.cells d 33 (0, 0))
  oj : W.heap[w.heap.size + 1 + 1]? = some (.cells #[.int .i64 0, .int .i64 0, .int .i64 0, .int .u64 0, .string ⟨#[]⟩, .slice none 0 0, .int .i64 0, .int .i64 0, .int .i64 0] 43 (0, 0))
  od : W.heap[w.heap.size + 1 + 1 + 1]? = some (.cells #[.int .i64 0, .int .i64 0, .slice none 0 0, .bool false, .bool false, .int .i64 0] 33 (0, 0))
  bw : Below w.heap.size w W
theorem Four.on {w W V : World} {j d : Array Value} (h : Four w W j d) (hb : Below W.heap.size W V) : Four w V j d :=
  ⟨(hb.block _ (blk_lt h.j)).trans h.j, (hb.block _ (blk_lt h.d)).trans h.d, (hb.block _ (blk_lt h.oj)).trans h.oj, (hb.block _ (blk_lt h.od)).trans h.od, below_step h.bw hb⟩
theorem Four.put {w V V' : World} {j d cs : Array Value} {b : Nat} {t : TypeId} (h : Four w V j d) (hp : Put V b cs t V') (hb : w.heap.size + 1 + 1 + 1 < b) : Four w V' j d :=
  ⟨(hp.far _ (by omega)).trans h.j, (hp.far _ (by omega)).trans h.d, (hp.far _ (by omega)).trans h.oj, (hp.far _ (by omega)).trans h.od, hp.below h.bw (by omega)⟩
theorem Four.putd {w V V' : World} {j d d' : Array Value} (h : Four w V j d) (hp : Put V (w.heap.size + 1) d' 33 V') : Four w V' j d' :=
  ⟨(hp.far _ (by omega)).trans h.j, hp.blk, (hp.far _ (by omega)).trans h.oj, (hp.far _ (by omega)).trans h.od, hp.below h.bw (by omega)⟩
theorem Four.setj {w V : World} {j d j' : Array Value} (h : Four w V j d) (o : Nat) (v : Value) (hj : j.setIfInBounds o v = j') : Four w (V.setCell ⟨w.heap.size, o, none⟩ v) j' d :=
  ⟨by rw [← hj]; exact heap_set v h.j, (heap_far v (by omega)).trans h.d, (heap_far v (by omega)).trans h.oj, (heap_far v (by omega)).trans h.od, below_set h.bw (Nat.le_refl _) v⟩
theorem LstS.set {w : World} {a : Option Addr} {c b o : Nat} {l : List RS} {cs : Array Value} {t : TypeId} {z : Nat × Nat} (h : LstS w a c l) (v : Value) (hb : w.heap[b]? = some (.cells cs t z)) (ht : t ≠ 110) : LstS (w.setCell ⟨b, o, none⟩ v) a c l :=
  h.stay fun k cs' z' hk => heap_far v fun e => by
    rw [e, hb] at hk
    simp only [Option.some.injEq, Obj.cells.injEq] at hk
    exact ht hk.2.1
theorem infoRD2 : (Tryz.prog.info? 33).map (fun i => (i.zero, i.size)) = some (some (.agg #[.int .i64 0, .int .i64 0, .slice none 0 0, .bool false, .bool false, .int .i64 0]), 6) := by kernel_rfl
theorem alloc_rd (w : World) : (Instr.alloc 33 true (.tuple #[])).run Tryz.prog w = .ok (.pointer (some ⟨w.heap.size, 0, none⟩)) (w.alloc (.cells #[.int .i64 0, .int .i64 0, .slice none 0 0, .bool false, .bool false, .int .i64 0] 33)) := by
  have hz := (zero_of_info infoRD2).1 w
  simp [Instr.alloc, hz, newVar, newObj, go_sem, Value.cells, Result.andThen]
  rfl
theorem ready_alloc_rd {l : List Oper} {Q : Exit → Act → World → Prop} {md : Region.Mode} {S : World → Prop} (i : Nat) {oi : Oper} {post : List Oper} {fuel : Nat} {listed : Array Bool} {a : Act} {w : World} (hi : l.drop i = oi :: post) (hr : Region.ready md l.toArray listed = [i]) (hw : Region.wanted oi (yielded l.toArray a.tmps) = true)
    (ho : oi.op = .alloc 33) (hS : S (w.alloc (.cells #[.int .i64 0, .int .i64 0, .slice none 0 0, .bool false, .bool false, .int .i64 0] 33)))
    (h : wpAnyH Tryz.prog md l.toArray Q S fuel (listed.setIfInBounds i true) (a.put oi.dst (.pointer (some ⟨w.heap.size, 0, none⟩))) (w.alloc (.cells #[.int .i64 0, .int .i64 0, .slice none 0 0, .bool false, .bool false, .int .i64 0] 33))) : wpAnyH Tryz.prog md l.toArray Q S (fuel + 1) listed a w :=
  ready_at i hi hr hw (.inl (by unfold execOp; simp only [ho, alloc_rd w, Sem.run_bind, Sem.run_pure, Result.andThen_ok])) hS h
/-- The end: both stay what they were. -/
theorem rjd_same {w V : World} {M : Nat → Prop} {d : Dev} {J : Jr} {x : RD} {al ea : Option Addr} {cl ec : Nat} {E : Nat} (hs : RSt w d x al cl) (he : EdF w M ea ec J.ends) (hb : Below w.heap.size w V) : RjdTo w M d J E (.returned (.tuple #[rjV J ea ec, rdV x al cl, .int .i64 (E : Nat)])) V :=
  ⟨x, al, cl, ea, ec, rfl, hs.ls.on hb, hs.tie, he.on hb, hb⟩
theorem rj_cells0 {w : World} {b : Nat} {v0 v1 v2 v3 v4 v5 v6 v7 v8 : Value} {t : TypeId} {z : Nat × Nat} (h : w.heap[b]? = some (.cells #[v0, v1, v2, v3, v4, v5, v6, v7, v8] t z)) :
    w.cell? ⟨b, 0, none⟩ = some v0 ∧ w.cell? ⟨b, 1, none⟩ = some v1 ∧ w.cell? ⟨b, 2, none⟩ = some v2 ∧ w.cell? ⟨b, 3, none⟩ = some v3 ∧ w.cell? ⟨b, 4, none⟩ = some v4 ∧ w.cell? ⟨b, 5, none⟩ = some v5 ∧ w.cell? ⟨b, 6, none⟩ = some v6 ∧ w.cell? ⟨b, 7, none⟩ = some v7 ∧ w.cell? ⟨b, 8, none⟩ = some v8 :=
  ⟨cell_of h rfl, cell_of h rfl, cell_of h rfl, cell_of h rfl, cell_of h rfl, cell_of h rfl, cell_of h rfl, cell_of h rfl, cell_of h rfl⟩
/-- The area loaded out of the journal's block. -/
theorem load_ra {w : World} {b : Nat} {g f s : Int} {u3 u4 u5 u6 u7 u8 : Value} {t : TypeId} {z : Nat × Nat} (h : w.heap[b]? = some (.cells #[.int .i64 g, .int .i64 f, .int .i64 s, u3, u4, u5, u6, u7, u8] t z)) : (Instr.loadAt 23 (.pointer (some ⟨b, 0, none⟩))).run Tryz.prog w = .ok (.agg #[.int .i64 g, .int .i64 f, .int .i64 s]) w :=
  load_mid h 23 0 _ _ Tryz.underlying23 rfl infoA3 rfl
end Go.Proofs.YtjnhcanohefjiaaGreatDoor
