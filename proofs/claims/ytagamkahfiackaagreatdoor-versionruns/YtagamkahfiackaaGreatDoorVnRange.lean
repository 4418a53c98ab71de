/- Range. -/
import Derived.Test.YtagamkahfiackaaGreatDoorVnCount
import Derived.Test.YtagamkahfiackaaGreatDoorJ2
namespace Go.Proofs.YtagamkahfiackaaGreatDoor
open Go.RowKit Go.Sort Go.Shelf

attribute [local go_sem] Oper.semAt_some
/-- A row of items of one's own. -/
def RowO (w : World) (B : Nat) (v : Value) (l : List It) : Prop := w.ownsRow B 74 2 v l.length (cI l)
theorem infoVn : (Tryz.prog.info? 74).map (fun i => (i.zero, i.size, i.bytes)) = some (some (.agg #[.string ⟨#[]⟩, .slice none 0 0]), 2, 40) := by kernel_rfl
theorem app_vni {w : World} {B b : Nat} {v : Value} {l : List It} {x : It} (hown : RowO w B v l) (hb : w.heap[b]? = some (.cells #[.string x.1, .slice x.2.a x.2.n x.2.c] 74 (0, 0))) (hl : l.length ≤ 1000000) (hN : B ≤ w.heap.size) :
    ∃ a n c w', (Builtin.append_ #[40, 40] 40 #[v, .slice (some ⟨b, 0, none⟩) 1 1]).run Tryz.prog w = .ok (.slice a n c) w' ∧ RowO w' B (.slice a n c) (l ++ [x]) ∧ w.grownBy w' v.ownBlock := by
  obtain ⟨i0, hi, hz0, hz1, hz2⟩ := info_parts infoVn
  have news : ∀ j u, (cI [x])[j]? = some u → w.cell? ((⟨b, 0, none⟩ : Addr).add j) = some u := fun j u hj => by
    rw [Addr.add_lit]
    match j, hj with
    | 0, hj => exact (cell_of hb rfl).trans hj
    | 1, hj => exact (cell_of hb rfl).trans hj
    | j + 2, hj => simp [cI] at hj
  obtain ⟨v', w', hr, h2, h3, _⟩ := run_append_own_at (P := Tryz.prog) w B 40 40 74 i0 (.agg #[.string ⟨#[]⟩, .slice none 0 0]) 2 40 Tryz.underlying40 hi hz0 hz1 hz2 rfl (by decide) v l.length (cI l) hown ⟨b, 0, none⟩ 1 1 (cI [x]) (by rfl) news (cI_one [x]) (by unfold maxLen; omega) (by omega) hN
  have ho : RowO w' B v' (l ++ [x]) := by
    unfold RowO
    rw [cI_append, List.length_append]
    exact h2
  obtain ⟨a, c, rfl, _⟩ := row_shape ho
  exact ⟨a, _, c, w', hr, ho, h3⟩
theorem rowO_base {w : World} {B g : Nat} {v : Value} {l : List It} (h : RowO w B v l) (hg : v.ownBlock = some g) : B ≤ g := by
  rcases h.2 with ⟨rfl, _⟩ | ⟨g', cap, cur, rfl, hb, _⟩
  · cases hg
  · simp only [Value.ownBlock, Option.some.injEq] at hg
    omega
abbrev MI := It × ByteArray
def mi (z : MI) : ByteArray × ByteArray := (z.1.1, z.2)
/-- Between two rounds: the box of what is told, its row, the rows' copies. -/
structure RgI (w : World) (ob : Nat) (P : List (ByteArray × ByteArray)) (v : Value) (Z : List MI) (V : World) : Prop where
  bx : Boxed V ob 40 v
  own : RowO V w.heap.size v (Z.map (·.1))
  eq : Z.map mi = P
  rows : ∀ z ∈ Z, RowAt V z.1.2 z.2 ∧ (∀ g, z.1.2.a = some ⟨g, 0, none⟩ → w.heap.size ≤ g)
  old : Below w.heap.size w V
  lo : w.heap.size ≤ ob
/-- What stays of it: where its own box, its own row and rows of bytes stay. -/
theorem RgI.keep {w V V' : World} {ob : Nat} {P : List (ByteArray × ByteArray)} {v : Value} {Z : List MI} (h : RgI w ob P v Z V) (hk : ∀ (k : Nat) (c : Array Value) (ty : TypeId), V.heap[k]? = some (.cells c ty (0, 0)) → V'.heap[k]? = V.heap[k]?) (hb : Below w.heap.size w V') : RgI w ob P v Z V' :=
  ⟨(hk _ _ _ h.bx).trans h.bx, row_keep h.own fun g hg => by obtain ⟨cur, hc⟩ := row_block h.own hg; exact hk g _ _ hc, h.eq, fun z hz => ⟨(h.rows z hz).1.keep fun g hg => by obtain ⟨cur, hc⟩ := (h.rows z hz).1.blk hg; exact hk g _ _ hc, (h.rows z hz).2⟩, hb, h.lo⟩
theorem RgI.on {w V V' : World} {ob : Nat} {P : List (ByteArray × ByteArray)} {v : Value} {Z : List MI} (h : RgI w ob P v Z V) (hb : Below V.heap.size V V') : RgI w ob P v Z V' := h.keep (fun k _ _ hc => hb.block k (blk_lt hc)) (below_step h.old hb)
theorem RgI.grown {w V V' : World} {ob B : Nat} {P : List (ByteArray × ByteArray)} {v : Value} {Z : List MI} {row : Option Nat} (h : RgI w ob P v Z V) (hB : w.heap.size ≤ B) (hg : V.grownBy V' row) (hr : ∀ q, row = some q → B ≤ q ∧ ∃ o : Obj, V.heap[q]? = some o ∧ o.isCells = false) : RgI w ob P v Z V' := by
  refine h.keep (fun k c ty hc => hg.block k (blk_lt hc) fun e => ?_) ⟨hg.os.trans h.old.os, hg.tape.trans h.old.tape, hg.output.trans h.old.output, Nat.le_trans h.old.size hg.size, fun k hk => (hg.block k (by have := h.old.size; omega) fun e => by have := (hr k e.symm).1; omega).trans (h.old.block k hk)⟩
  obtain ⟨_, o, ho, hcc⟩ := hr k e.symm
  rw [hc] at ho; cases ho; cases hcc
/-- A round's work: an item behind the others, and the box. -/
theorem RgI.step {w V V1 V2 : World} {ob : Nat} {P : List (ByteArray × ByteArray)} {v : Value} {Z : List MI} (h : RgI w ob P v Z V) (hb : Below V.heap.size V V1) {y : It} {s : ByteArray} (hs : RowAt V1 y.2 s) (hlo : ∀ g, y.2.a = some ⟨g, 0, none⟩ → w.heap.size ≤ g) {a : Option Addr} {n c : Nat}
    (ho : RowO V2 w.heap.size (.slice a n c) (Z.map (·.1) ++ [y])) (hg : (V1.alloc (.cells #[.string y.1, .slice y.2.a y.2.n y.2.c] 74)).grownBy V2 v.ownBlock) :
    RgI w ob (P ++ [(y.1, s)]) (.slice a n c) (Z ++ [(y, s)]) (V2.setCell ⟨ob, 0, none⟩ (.slice a n c)) ∧ KpR ob V (V2.setCell ⟨ob, 0, none⟩ (.slice a n c)) ∧ (∀ (k : Nat) (o : Obj), V.heap[k]? = some o → o.isCells = false → (V2.setCell ⟨ob, 0, none⟩ (.slice a n c)).heap[k]? = some o) ∧ V.heap.size ≤ V2.heap.size ∧ Boxed V2 ob 40 v := by
  have hb2 := below_step hb (below_alloc V1 (.cells #[.string y.1, .slice y.2.a y.2.n y.2.c] 74))
  have hsz := hb2.size
  have h1 := h.on hb2
  have hne : ∀ g, v.ownBlock = some g → g ≠ ob := fun g hg' e => by
    obtain ⟨cur, hc⟩ := row_block h1.own hg'
    exact kind_ne h1.bx hc (by decide) e.symm
  have hblk : ∀ (k : Nat) (c : Array Value) (ty : TypeId), ty ≠ 74 → V.heap[k]? = some (.cells c ty (0, 0)) → V2.heap[k]? = some (.cells c ty (0, 0)) := fun k c ty ht hk => by
    have hk1 := (hb2.block k (blk_lt hk)).trans hk
    refine (hg.block k (blk_lt hk1) fun e => ?_).trans hk1
    obtain ⟨cur, hc⟩ := row_block h1.own e.symm
    exact kind_ne hk1 hc ht rfl
  have hbx2 : Boxed V2 ob 40 v := hblk _ _ _ (by decide) h.bx
  have hrow : ∀ (r : Vl) (x : ByteArray), RowAt (V1.alloc (.cells #[.string y.1, .slice y.2.a y.2.n y.2.c] 74)) r x → RowAt (V2.setCell ⟨ob, 0, none⟩ (.slice a n c)) r x := fun r x hr => hr.keep fun g hgr => by
    obtain ⟨cur, hc⟩ := hr.blk hgr
    have e1 : V2.heap[g]? = some (.cells cur 5 (0, 0)) := (hg.block g (blk_lt hc) fun e => by
      obtain ⟨cur2, hc2⟩ := row_block h1.own e.symm
      exact kind_ne hc hc2 (by decide) rfl).trans hc
    refine (heap_far _ ?_).trans (e1.trans hc.symm)
    rintro rfl
    exact kind_ne h1.bx hc (by decide) rfl
  refine ⟨⟨hbx2.set _, ?_, ?_, ?_, ?_, h.lo⟩, ⟨by rw [size_set]; exact Nat.le_trans hsz hg.size, fun k c ty hk ht hc => (heap_far _ hk).trans (hblk k c ty ht hc)⟩, fun k o hk hco => ?_, Nat.le_trans hsz hg.size, hbx2⟩
  · rw [List.map_append]
    refine row_keep ho (fun g hg' => heap_far _ fun e => ?_)
    obtain ⟨cur, hc⟩ := row_block ho hg'
    exact kind_ne hbx2 hc (by decide) e.symm
  · simp [h.eq, mi]
  · intro z hz
    rcases List.mem_append.1 hz with hz | hz
    · exact ⟨hrow _ _ (h1.rows z hz).1, (h.rows z hz).2⟩
    · rw [List.mem_singleton.1 hz]
      exact ⟨hrow _ _ (hs.on (below_alloc _ _)), hlo⟩
  · refine ⟨hg.os.trans h1.old.os, hg.tape.trans h1.old.tape, hg.output.trans h1.old.output, by rw [size_set]; exact Nat.le_trans h1.old.size hg.size, fun k hk => ?_⟩
    refine (heap_far _ (by have := h.lo; omega)).trans ((hg.block k (by have := h1.old.size; omega) fun e => ?_).trans (h1.old.block k hk))
    have := rowO_base h1.own e.symm
    omega
  · have hk1 := (hb2.block k (blk_lt hk)).trans hk
    refine (heap_far _ fun e => ?_).trans ((hg.block k (blk_lt hk1) fun e => ?_).trans hk1)
    · subst e
      rw [h.bx] at hk; cases hk; cases hco
    · obtain ⟨cur, hc⟩ := row_block h1.own e.symm
      rw [hk1] at hc; cases hc; cases hco
end Go.Proofs.YtagamkahfiackaaGreatDoor
