/- What the law's step leans on. -/
import Derived.Test.YtagamkahfiackaaGreatDoorVnPrune
import Derived.Test.YtagamkahfiackaaGreatDoorVnRPrune
import Derived.Test.YtagamkahfiackaaGreatDoorJ6
import Derived.Test.YtagamkahfiackaaGreatDoorJ7
namespace Go.Proofs.YtagamkahfiackaaGreatDoor
open Go.RowKit Go.Sort

/-- A store stays where all plain cells do. -/
theorem own_cells0 {w : World} {M : Nat → Option Nd} (h : Store w M) {k : Nat} (hk : Own M k) : ∃ (c : Array Value) (ty : TypeId), w.heap[k]? = some (.cells c ty (0, 0)) := by
  obtain ⟨q, n, hq, rfl | e | e⟩ := hk
  · exact ⟨_, _, h.blk _ _ hq⟩
  · obtain ⟨c2, k2⟩ := row_block (h.its q n hq) e
    exact ⟨_, _, k2⟩
  · obtain ⟨c2, k2⟩ := row_block (h.ks q n hq) e
    exact ⟨_, _, k2⟩
theorem VnAt.keep0 {W w w' : World} {ps : Nat} {m : List Ct} (h : VnAt W w ps m) (hk : ∀ (b : Nat) (c : Array Value) (t : TypeId), w.heap[b]? = some (.cells c t (0, 0)) → w'.heap[b]? = w.heap[b]?) (hb : Below W.heap.size W w') : VnAt W w' ps m := by
  obtain ⟨p, M, F, l, rd, hd, e⟩ := h.ex
  refine ⟨⟨p, M, F, l, rd, ⟨⟨hd.wk.st.keep fun k hk' => ?_, hb, hd.wk.mine⟩, hd.tr.keep ?_, hd.lp, hd.ls, (hk _ _ _ hd.bs).trans hd.bs, hd.ch.keep (fun g cur hg => hk g cur _ hg) (fun g cur hg => hk g cur _ hg)⟩, e⟩, h.ok⟩
  · obtain ⟨c, ty, h1⟩ := own_cells0 hd.wk.st hk'
    exact hk k c ty h1
  · rcases hd.tr.root with ⟨_, _, e⟩ | ⟨_, _, _, _, e⟩
    · exact hk _ _ _ e
    · exact hk _ _ _ e
/-- A row of the document's stays under what a store does. -/
theorem RowRV.alien {w w' : World} {B : Nat} {v : Value} {L : List RV} (h : RowRV w B v L) (ha : AlienV w w') : RowRV w' B v L := row_keep h fun g hg => by
  obtain ⟨cur, hc⟩ := row_block h hg
  exact (ha.1 g cur _ hc (by decide) (by decide) (by decide) (by decide) (by decide)).trans hc.symm
/-- []byte of a text: its block. -/
theorem conv_blk (w : World) (T : ByteArray) : ∃ (W : World) (G : Nat) (cs : Array Value) (z : Nat × Nat), (convert 9 33 (.string T)).run Tryz.prog w = .ok (.slice (some ⟨w.heap.size, 0, none⟩) T.size G) W ∧ BytesIn W (some ⟨w.heap.size, 0, none⟩) (ns T.data.toList) ∧ W.heap[w.heap.size]? = some (.cells cs 5 z) ∧ T.size ≤ cs.size ∧ z = (cs.size, cs.size + 1) ∧ Below w.heap.size w W := by
  refine ⟨_, _, _, _, Lib.run_convert_string_bytes (P := Tryz.prog) w 9 33 5 T Tryz.underlying9 Tryz.underlying33 Tryz.underlying5, ?_, Lib.bytesWorld_at_new w _ T, ?_, rfl, ?_⟩
  · intro j hj
    simp only [ns, List.length_map] at hj
    have hj2 : j < T.size := by rw [size_list]; exact hj
    refine ⟨_, 0, rfl, ?_⟩
    rw [Nat.zero_add, Lib.bytesWorld_cell w _ T j hj2]
    simp only [ns, List.getD_eq_getElem?_getD, List.getElem?_map, List.getElem?_eq_getElem hj]
    rfl
  · unfold Lib.bytesCells
    rw [Array.size_append, Array.size_map]
    exact Nat.le_add_right _ _
  · exact ⟨rfl, rfl, rfl, by rw [Lib.bytesWorld_size]; omega, fun j hj => Lib.bytesWorld_at_old w _ T j hj⟩
/-- Something written over in such a block. -/
structure OddAt (w : World) (g n : Nat) (b0 : Nat) (o : Obj) : Prop where
  blk : ∃ cs : Array Value, w.heap[g]? = some (.cells cs 5 (cs.size, cs.size + 1)) ∧ n ≤ cs.size
  ob : w.heap[b0]? = some o
theorem OddAt.cell {w : World} {g n b0 j : Nat} {o : Obj} (h : OddAt w g n b0 o) (hj : j < n) : (∃ u, w.cell? ⟨g, j, none⟩ = some u) ∧ w.frozen? ⟨g, j, none⟩ = false := by
  obtain ⟨cs, h1, h2⟩ := h.blk
  refine ⟨⟨cs[j]'(by omega), cell_of h1 (Array.getElem?_eq_getElem (by omega))⟩, ?_⟩
  simp only [World.frozen?, h1]
  simp
  omega
theorem OddAt.set {w : World} {g n b0 j : Nat} {o : Obj} (h : OddAt w g n b0 o) (hne : b0 ≠ g) (u : Value) : OddAt (w.setCell ⟨g, j, none⟩ u) g n b0 o := by
  obtain ⟨cs, h1, h2⟩ := h.blk
  refine ⟨⟨cs.setIfInBounds j u, ?_, by simpa using h2⟩, (heap_far _ hne).trans h.ob⟩
  rw [heap_set u h1]
  simp
/-- The state of both, at a base W. -/
structure BothAt (W w : World) (ps : Nat) (lv : Value) (R : List RV) (m : List Ct) : Prop where
  vn : VnAt W w ps m
  ro : RowRV w W.heap.size lv R
  re : RelR R m
theorem BothAt.on {W w w' : World} {ps : Nat} {lv : Value} {R : List RV} {m : List Ct} (h : BothAt W w ps lv R m) (hb : Below w.heap.size w w') : BothAt W w' ps lv R m := ⟨h.vn.on hb, row_on h.ro hb, h.re⟩
theorem BothAt.set {W w : World} {ps : Nat} {lv : Value} {R : List RV} {m : List Ct} (h : BothAt W w ps lv R m) {g n b0 j : Nat} {o : Obj} (ho : OddAt w g n b0 o) (hg : W.heap.size ≤ g) (u : Value) : BothAt W (w.setCell ⟨g, j, none⟩ u) ps lv R m := by
  obtain ⟨cs, h1, h2⟩ := ho.blk
  have hk : ∀ (b : Nat) (c : Array Value) (t : TypeId), w.heap[b]? = some (.cells c t (0, 0)) → (w.setCell ⟨g, j, none⟩ u).heap[b]? = w.heap[b]? := fun b c t hb => heap_far _ fun e => by
    subst e
    rw [h1] at hb
    simp at hb
  have hbl := h.vn.below
  refine ⟨h.vn.keep0 hk ⟨hbl.os, hbl.tape, hbl.output, by rw [size_set]; exact hbl.size, fun k hk' => (heap_far _ (by omega)).trans (hbl.block k hk')⟩, row_keep h.ro fun q hq => ?_, h.re⟩
  obtain ⟨cur, hc⟩ := row_block h.ro hq
  exact hk q cur _ hc
/-- Put, whatever comes of it. -/
theorem vput_all {W w : World} {ps : Nat} {m : List Ct} (h : VnAt W w ps m) (hm : nVer m ≤ 900000) (k : ByteArray) (t : Int) {a : Option Addr} {n c : Nat} {s : ByteArray} (hn : n = (bsN s).length) (hb : BytesIn w a (bsN s)) (hz : a = none → c = 0) (hs : s.size ≤ 140737488355328) (gn : Bool) :
    ((t < 1 ∨ t < lastC (chM k m)) → Calls Tryz.prog 19 #[.pointer (some ⟨ps, 0, none⟩), .string k, .int .i64 t, .slice a n c, .bool gn] w fun e w' => e = .returned erA ∧ Hid (VnAt W w' ps m ∧ AlienV w w')) ∧
    (1 ≤ t → lastC (chM k m) ≤ t → Calls Tryz.prog 19 #[.pointer (some ⟨ps, 0, none⟩), .string k, .int .i64 t, .slice a n c, .bool gn] w fun e w' => e = .returned .nilIface ∧ Hid (VnAt W w' ps (putM k (noTx ⟨k, ⟨t, s, gn⟩⟩).v m) ∧ AlienV w w')) := by
  refine ⟨fun q => ?_, fun h1 hl => ?_⟩
  · rcases Int.lt_or_le t 1 with ht | ht
    · exact (vput_low k t ht a n c gn).mono fun e w' ⟨e1, e2⟩ => ⟨e1, by rw [e2]; exact ⟨h, AlienV.below (Below.refl _ _)⟩⟩
    · exact (vput_late h hm k t ht (q.resolve_left (by omega)) a n c gn).mono fun e w' ⟨e1, e2⟩ => ⟨e1, h.on e2, AlienV.below e2⟩
  · cases gn with
    | true => exact vput_gone h hm k t h1 hl a n c
    | false => exact vput_row h hm k t h1 hl hn hb hz hs
/-- The document's Put, whatever comes of it. -/
theorem rput_all {w : World} {B : Nat} {v : Value} {R : List RV} {m : List Ct} (hr : RowRV w B v R) (hl : R.length ≤ 900) (hre : RelR R m) (hok : OkM m) (x : RV) :
    ((x.v.cm < 1 ∨ x.v.cm < lastC (chM x.k m)) → Calls Tryz.prog 20 #[v, rvV x] w fun e w' => e = .returned (.tuple #[v, .int .i64 1]) ∧ Below w.heap.size w w') ∧
    (1 ≤ x.v.cm → lastC (chM x.k m) ≤ x.v.cm → Calls Tryz.prog 20 #[v, rvV x] w fun e w' => ∃ v', e = .returned (.tuple #[v', .int .i64 0]) ∧ Hid (RowRV w' w.heap.size v' (putR R (noTx x)) ∧ RelR (putR R (noTx x)) (putM x.k (noTx x).v m) ∧ Below w.heap.size w w')) := by
  refine ⟨fun q => ?_, fun h1 h2 => ?_⟩
  · rcases Int.lt_or_le x.v.cm 1 with ht | ht
    · exact rput_low w v x ht
    · refine (rput_ hr hl x ht).mono fun e w' h => ?_
      rcases h with ⟨_, h2, h3⟩ | ⟨h1, _⟩
      · exact ⟨h2, h3⟩
      · rw [late_link hre hok ht, decide_eq_false_iff_not] at h1
        exact absurd (q.resolve_left (by omega)) h1
  · refine (rput_ hr hl x h1).mono fun e w' h => ?_
    rcases h with ⟨h3, _⟩ | ⟨_, v', h4, h5, h6⟩
    · rw [late_link hre hok h1, decide_eq_true_iff] at h3
      omega
    · exact ⟨v', h4, h5, hre.put hok (x := noTx x) h1 h2, h6⟩
end Go.Proofs.YtagamkahfiackaaGreatDoor
