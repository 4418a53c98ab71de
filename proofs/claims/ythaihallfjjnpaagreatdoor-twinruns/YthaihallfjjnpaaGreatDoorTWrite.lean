/- twin.write: bytes laid into sectors, part by part, and made safe. -/
import Derived.Test.YthaihallfjjnpaaGreatDoorTChunk
import Derived.Test.YthaihallfjjnpaaGreatDoorJ1
import Derived.Test.YthaihallfjjnpaaGreatDoorDSync
import Derived.Test.YthaihallfjjnpaaGreatDoorJ2
import Derived.RangeFuncCalls
namespace Go.Proofs.YthaihallfjjnpaaGreatDoor
open Go.RowKit Go.Sort Go.Maps Go.Shelf

attribute [local go_sem] Oper.semAt_some
/-- The part number i. -/
def partB (xs : List Nat) (i : Nat) : List Nat := (xs.drop (64 * i)).take 64
theorem part_len (xs : List Nat) (i : Nat) : (partB xs i).length = pLen xs.length i := by
  simp [partB, pLen]
theorem chk_range (xs : List Nat) : chk xs = (List.range ((xs.length + 63) / 64)).map (partB xs) := by
  refine chk_ind (P := fun xs => chk xs = (List.range ((xs.length + 63) / 64)).map (partB xs)) ?_ ?_ xs
  · rw [chk_nil]; rfl
  · intro xs h ih
    have hp : 0 < xs.length := List.length_pos_iff.2 h
    have e : (xs.length + 63) / 64 = ((xs.drop 64).length + 63) / 64 + 1 := by rw [List.length_drop]; omega
    rw [chk_cons h, ih, e, List.range_succ_eq_map, List.map_cons, List.map_map]
    congr 1
    apply List.map_congr_left
    intro i _
    simp only [Function.comp, partB, List.drop_drop]
    rw [show 64 + 64 * i = 64 * i.succ by rw [Nat.succ_eq_add_one]; omega]
theorem wrL_snoc : ∀ (l : List (List Nat)) (d : Dev) (g f : Int) (c : List Nat), (wrL d g f l).2 = 0 → wrL d g f (l ++ [c]) = (writeD (wrL d g f l).1 (g, f + l.length) c, wErr (wrL d g f l).1 (g, f + l.length) c.length)
  | [], d, g, f, c, _ => by
    simp only [List.nil_append, wrL, List.length_nil, Int.natCast_zero, Int.add_zero]
    split
    · rfl
    · rename_i h; simp at h; rw [h]
  | x :: r, d, g, f, c, h => by
    rw [List.cons_append]
    unfold wrL at h ⊢
    split at h
    · rename_i he; exact absurd h he
    · rename_i he
      rw [if_neg he, if_neg he, wrL_snoc r _ g (f + 1) c h, List.length_cons, show f + 1 + (r.length : Int) = f + ((r.length + 1 : Nat) : Int) by omega]
theorem wrL_stop : ∀ (l r : List (List Nat)) (d : Dev) (g f : Int), (wrL d g f l).2 ≠ 0 → wrL d g f (l ++ r) = wrL d g f l
  | [], r, d, g, f, h => absurd rfl h
  | x :: l, r, d, g, f, h => by
    rw [List.cons_append]
    unfold wrL at h ⊢
    split at h
    · rename_i he; rw [if_pos he, if_pos he]
    · rename_i he
      rw [if_neg he, if_neg he, wrL_stop l r _ g (f + 1) h]
theorem part_in {w : World} {b off : Nat} {xs : List Nat} (h : BytesIn w (some ⟨b, off, none⟩) xs) (x : Nat) : BytesIn w (some ⟨b, off + 64 * x, none⟩) (partB xs x) := by
  intro i hi
  rw [part_len] at hi
  unfold pLen at hi
  obtain ⟨b', o', e, h1⟩ := h (64 * x + i) (by omega)
  cases e
  refine ⟨_, _, rfl, ?_⟩
  rw [show off + 64 * x + i = off + (64 * x + i) by omega, h1]
  have : (partB xs x).getD i 0 = xs.getD (64 * x + i) 0 := by
    unfold partB
    rw [List.getD_eq_getElem?_getD, List.getD_eq_getElem?_getD, List.getElem?_take_of_lt (by omega), List.getElem?_drop]
  rw [this]
theorem part_byte {xs : List Nat} (hx : ∀ x ∈ xs, x < 256) (i : Nat) : ∀ x ∈ partB xs i, x < 256 := fun x h => hx x (List.mem_of_mem_drop (List.mem_of_mem_take h))
/-- What the parts that came made of a device. -/
def wrP (d : Dev) (g f : Int) (xs : List Nat) (pre : List Nat) : Dev × Nat := wrL d g f (pre.map (partB xs))
theorem wrP_snoc {d : Dev} {g f : Int} {xs pre : List Nat} (x : Nat) (h : (wrP d g f xs pre).2 = 0) : wrP d g f xs (pre ++ [x]) = (writeD (wrP d g f xs pre).1 (g, f + pre.length) (partB xs x), wErr (wrP d g f xs pre).1 (g, f + pre.length) (pLen xs.length x)) := by
  unfold wrP at h ⊢
  rw [List.map_append, List.map_cons, List.map_nil, wrL_snoc _ _ _ _ _ h, List.length_map, part_len]
/-- Between two rounds. -/
structure WrI (w : World) (p aa bb : Nat) (d : Dev) (K : Nat) (g f : Int) (xs : List Nat) (b off : Nat) (pre : List Nat) (W : World) : Prop where
  bd : Boxed W w.heap.size 25 (.pointer (some ⟨p, 0, none⟩))
  bg : Boxed W (w.heap.size + 1) 3 (.int .i64 g)
  be : Boxed W (w.heap.size + 1 + 1) 27 .nilIface
  bs : Boxed W (w.heap.size + 1 + 1 + 1) 3 (.int .i64 (f + pre.length))
  dev : DevIn W p aa bb (wrP d g f xs pre).1 (K + pre.length)
  good : (wrP d g f xs pre).2 = 0
  byt : BytesIn W (some ⟨b, off, none⟩) xs
  fd : Fd p aa bb w W
  sz : w.heap.size + 1 + 1 + 1 + 1 + 1 + 1 ≤ W.heap.size
/-- Where a round left. -/
structure WrX (w : World) (p aa bb : Nat) (d : Dev) (K : Nat) (g f : Int) (xs : List Nat) (pre : List Nat) (W : World) : Prop where
  be : Boxed W (w.heap.size + 1 + 1) 27 (errV (wrP d g f xs pre).2)
  dev : DevIn W p aa bb (wrP d g f xs pre).1 (K + pre.length)
  bad : (wrP d g f xs pre).2 ≠ 0
  fd : Fd p aa bb w W
theorem bytes_blk {w w' : World} {b off : Nat} {xs : List Nat} (h : BytesIn w (some ⟨b, off, none⟩) xs) (e : b < w.heap.size → w'.heap[b]? = w.heap[b]?) : BytesIn w' (some ⟨b, off, none⟩) xs := by
  intro i hi
  obtain ⟨b', o', e', h1⟩ := h i hi
  cases e'
  exact ⟨_, _, rfl, (cell_same (e (block_lt_of_cell h1))).trans h1⟩
theorem fd_grown {p aa bb N : Nat} {w W W' : World} {row : Option Nat} (h : Fd p aa bb w W) (hN : w.heap.size ≤ N) (hg : W.grownBy W' row) (hr : ∀ r, row = some r → N ≤ r) : Fd p aa bb w W' :=
  ⟨hg.os.trans h.os, hg.tape.trans h.tape, hg.output.trans h.output, Nat.le_trans h.size hg.size, fun k hk h1 h2 h3 => (hg.block k (Nat.lt_of_lt_of_le hk h.size) (fun e => by have := hr k e.symm; omega)).trans (h.block k hk h1 h2 h3)⟩
theorem WrI.grown {w W W' : World} {p aa bb : Nat} {d : Dev} {K : Nat} {g f : Int} {xs : List Nat} {b off : Nat} {pre : List Nat} {row : Option Nat} (h : WrI w p aa bb d K g f xs b off pre W) (hl : p < w.heap.size ∧ aa < w.heap.size ∧ bb < w.heap.size) (hb : b < w.heap.size) (hg : W.grownBy W' row) (hr : ∀ r, row = some r → w.heap.size + 1 + 1 + 1 + 1 + 1 + 1 ≤ r) : WrI w p aa bb d K g f xs b off pre W' := by
  have hs := h.sz
  have key : ∀ k, k < w.heap.size + 1 + 1 + 1 + 1 + 1 + 1 → W'.heap[k]? = W.heap[k]? := fun k hk => hg.block k (by omega) (fun e => by have := hr k e.symm; omega)
  exact ⟨(key _ (by omega)).trans h.bd, (key _ (by omega)).trans h.bg, (key _ (by omega)).trans h.be, (key _ (by omega)).trans h.bs, h.dev.keep (key _ (by omega)) (key _ (by omega)) (key _ (by omega)), h.good, bytes_blk h.byt (fun _ => key _ (by omega)), fd_grown h.fd (by omega) hg hr, Nat.le_trans hs hg.size⟩
theorem WrX.grown {w W W' : World} {p aa bb : Nat} {d : Dev} {K : Nat} {g f : Int} {xs : List Nat} {pre : List Nat} {row : Option Nat} (h : WrX w p aa bb d K g f xs pre W) (hl : p < w.heap.size ∧ aa < w.heap.size ∧ bb < w.heap.size) (hg : W.grownBy W' row) (hr : ∀ r, row = some r → w.heap.size + 1 + 1 + 1 + 1 + 1 + 1 ≤ r) : WrX w p aa bb d K g f xs pre W' := by
  have h1 := h.dev.lts
  have key : ∀ k, k < W.heap.size → k < w.heap.size + 1 + 1 + 1 + 1 + 1 + 1 → W'.heap[k]? = W.heap[k]? := fun k h2 hk => hg.block k h2 (fun e => by have := hr k e.symm; omega)
  exact ⟨(key _ (blk_lt h.be) (by omega)).trans h.be, h.dev.keep (key _ h1.1 (by omega)) (key _ h1.2.1 (by omega)) (key _ h1.2.2 (by omega)), h.bad, fd_grown h.fd (by omega) hg hr⟩
/-- A call on the device, behind which a cell of the caller's own is stored. -/
theorem keeps_of {B o : Nat} {p aa bb : Nat} {W W3 : World} {v : Value} (h : Fd p aa bb W W3) (hp : p < B ∧ aa < B ∧ bb < B) (ho : o < B) : KeepsFrom B W (W3.setCell ⟨o, 0, none⟩ v) := by
  refine ⟨by rw [show (W3.setCell ⟨o, 0, none⟩ v).heap.size = W3.heap.size by simp [World.setCell]]; exact h.size, fun k o' hk hko _ => ?_⟩
  rw [heap_far v (by omega), h.block k (blk_lt hko) (by omega) (by omega) (by omega)]
  exact hko
theorem fd_set {p aa bb o : Nat} {w W : World} {v : Value} (h : Fd p aa bb w W) (ho : w.heap.size ≤ o) : Fd p aa bb w (W.setCell ⟨o, 0, none⟩ v) :=
  ⟨h.os, h.tape, h.output, by rw [show (W.setCell ⟨o, 0, none⟩ v).heap.size = W.heap.size by simp [World.setCell]]; exact h.size, fun k hk h1 h2 h3 => (heap_far v (by omega)).trans (h.block k hk h1 h2 h3)⟩
/-- What write hands back. -/
def WrPost (w : World) (p aa bb : Nat) (d : Dev) (K : Nat) (g f : Int) (xs : List Nat) (n : Nat) (e : Ending) (w' : World) : Prop :=
  e = .returned (errV (if (wrL d g f (chk xs)).2 ≠ 0 then (wrL d g f (chk xs)).2 else sErr (wrL d g f (chk xs)).1 g)) ∧ DevIn w' p aa bb (if (wrL d g f (chk xs)).2 ≠ 0 then (wrL d g f (chk xs)).1 else syncD (wrL d g f (chk xs)).1 g) (K + (n + 63) / 64) ∧ Fd p aa bb w w'
/-- The end of write: what lies where its result lies is handed back. -/
theorem wr_end {w W : World} {p aa bb D : Nat} {d d1 : Dev} {K : Nat} {g f : Int} {xs : List Nat} {n : Nat} {v : Value} {a : Act} {F : Fence} {nn : Nat} (h1 : W.heap[D]? = some (.deferred (some []))) (h2 : Boxed W (w.heap.size + 1 + 1) 27 v) (h3 : DevIn W p aa bb d1 (K + (n + 63) / 64)) (h4 : Fd p aa bb w W) (hD : w.heap.size + 1 + 1 + 1 ≤ D) (hl : p < w.heap.size ∧ aa < w.heap.size ∧ bb < w.heap.size)
    (hd : a.defers = [{ target := .collected D, args := #[] }]) (ht : a.tmps.getD 8 undef = .pointer (some ⟨w.heap.size + 1 + 1, 0, none⟩))
    (h : v = errV (if (wrL d g f (chk xs)).2 ≠ 0 then (wrL d g f (chk xs)).2 else sErr (wrL d g f (chk xs)).1 g) ∧ d1 = (if (wrL d g f (chk xs)).2 ≠ 0 then (wrL d g f (chk xs)).1 else syncD (wrL d g f (chk xs)).1 g)) :
    bodyPostM F nn Tryz.prog Tryz.f32 (WrPost w p aa bb d K g f xs n) Exit.ret a W := by
  obtain ⟨tmps, defers⟩ := a
  simp only at hd ht
  subst hd
  have hb8 : Boxed (W.putObj D (.deferred none)) (w.heap.size + 1 + 1) 27 v := (World.putObj_heap_other (by omega)).trans h2
  have hdv : DevIn (W.putObj D (.deferred none)) p aa bb d1 (K + (n + 63) / 64) := h3.keep (World.putObj_heap_other (by omega)) (World.putObj_heap_other (by omega)) (World.putObj_heap_other (by omega))
  have hfd : Fd p aa bb w (W.putObj D (.deferred none)) := fd_grown h4 (N := w.heap.size) (Nat.le_refl _) (grownBy_putObj' _ D _) (fun r e => by cases e; omega)
  refine ⟨by simp, .inl ⟨_, _, rfl, run_takeDeferred h1, ?_⟩⟩
  refine ⟨v, ?_, by rw [h.1], by rw [← h.2]; exact hdv, hfd⟩
  rw [results_cell rfl]
  have hc := hb8.cell
  generalize W.putObj D (.deferred none) = V at *
  rw [ht]
  have hl1 : (loadVar 27 ⟨w.heap.size + 1 + 1, 0, none⟩).run Tryz.prog V = .ok v V := by
    simp [loadVar, go_sem, hc]
  simp [asAddr, Result.andThen, hl1]
theorem wraps_i64'' (n : Int) (h0 : -9223372036854775808 ≤ n) (h1 : n ≤ 9223372036854775807) : IntKind.i64.wrap n = n := by rw [IntKind.wrap_i64]; omega
theorem six_boxes (w : World) (t0 t1 t2 t3 t4 t5 : TypeId) (v0 v1 v2 v3 v4 v5 : Value) (W : World) (hW : W = (((((w.alloc (.cells #[v0] t0)).alloc (.cells #[v1] t1)).alloc (.cells #[v2] t2)).alloc (.cells #[v3] t3)).alloc (.cells #[v4] t4)).alloc (.cells #[v5] t5)) :
    W.heap.size = w.heap.size + 1 + 1 + 1 + 1 + 1 + 1 ∧ Below w.heap.size w W ∧ Boxed W w.heap.size t0 v0 ∧ Boxed W (w.heap.size + 1) t1 v1 ∧ Boxed W (w.heap.size + 1 + 1) t2 v2 ∧ Boxed W (w.heap.size + 1 + 1 + 1) t3 v3 ∧ Boxed W (w.heap.size + 1 + 1 + 1 + 1) t4 v4 ∧ Boxed W (w.heap.size + 1 + 1 + 1 + 1 + 1) t5 v5 := by
  subst hW
  refine ⟨by simp, ?_, ?_, ?_, ?_, ?_, ?_, ?_⟩
  · exact ((((((Below.refl _ _).alloc (Nat.le_refl _) _).alloc (by simp) _).alloc (by simp; omega) _).alloc (by simp; omega) _).alloc (by simp; omega) _).alloc (by simp; omega) _
  · exact (((((Boxed.new w _ _).alloc _).alloc _).alloc _).alloc _).alloc _
  · have := ((((Boxed.new (w.alloc (.cells #[v0] t0)) t1 v1).alloc (.cells #[v2] t2)).alloc (.cells #[v3] t3)).alloc (.cells #[v4] t4)).alloc (.cells #[v5] t5)
    simpa using this
  · have := (((Boxed.new ((w.alloc (.cells #[v0] t0)).alloc (.cells #[v1] t1)) t2 v2).alloc (.cells #[v3] t3)).alloc (.cells #[v4] t4)).alloc (.cells #[v5] t5)
    simpa using this
  · have := ((Boxed.new (((w.alloc (.cells #[v0] t0)).alloc (.cells #[v1] t1)).alloc (.cells #[v2] t2)) t3 v3).alloc (.cells #[v4] t4)).alloc (.cells #[v5] t5)
    simpa using this
  · have := (Boxed.new ((((w.alloc (.cells #[v0] t0)).alloc (.cells #[v1] t1)).alloc (.cells #[v2] t2)).alloc (.cells #[v3] t3)) t4 v4).alloc (.cells #[v5] t5)
    simpa using this
  · have := Boxed.new (((((w.alloc (.cells #[v0] t0)).alloc (.cells #[v1] t1)).alloc (.cells #[v2] t2)).alloc (.cells #[v3] t3)).alloc (.cells #[v4] t4)) t5 v5
    simpa using this
set_option maxRecDepth 100000 in
set_option maxHeartbeats 2000000 in
theorem twr_in {w : World} {p aa bb : Nat} {d : Dev} {K : Nat} (h : DevIn w p aa bb d K) (g f : Int) (b off n c : Nat) (xs : List Nat) (hby : BytesIn w (some ⟨b, off, none⟩) xs) (hb : b < w.heap.size) (hbn : b ≠ p ∧ b ≠ aa ∧ b ≠ bb) (hx : ∀ x ∈ xs, x < 256) (hn : xs.length = n) (hn2 : n ≤ 16777216) (hcap : n ≤ c) (hf0 : 0 ≤ f) (hf1 : f ≤ 16384) (hK : K + (n + 63) / 64 < 1000000) :
    CallsIn Fence.wide 9 Tryz.prog 32 #[.pointer (some ⟨p, 0, none⟩), .int .i64 g, .int .i64 f, .slice (some ⟨b, off, none⟩) n c] w (WrPost w p aa bb d K g f xs n) := by
  refine callsIn_of_wp_marks Tryz.func32 rfl (wide_fn _) ?_ wide_round
  simp only [Tryz.ntmps32, List.size_toArray, List.length_cons, List.length_nil, Nat.reduceAdd, Nat.reduceSub, Array.replicate_succ, Array.replicate_zero, List.push_toArray, List.append_toArray, List.nil_append, List.cons_append]
  have HCh := Lib.hid (fun W => callsIn_wide (n := 8) |>.2 (chunk_ (some ⟨b, off, none⟩) n c W))
  gi_wp2_with (first | (refine ⟨trivial, ?_⟩; gi_at_call 60; refine (HCh.out _).mono ?_; rintro e w1 ⟨rfl, rfl⟩) | gi_in)
  clear HCh
  obtain ⟨W5, hW5⟩ : ∃ W5, W5 = ((((((w.alloc (Obj.cells #[Value.pointer (some { block := p, off := 0 })] 25)).alloc (Obj.cells #[Value.int IntKind.i64 g] 3)).alloc (Obj.cells #[Value.nilIface] 27)).alloc (Obj.cells #[Value.int IntKind.i64 f] 3)).alloc (Obj.cells #[Value.slice (some { block := b, off := off }) n c] 37)).alloc (Obj.cells #[Value.int IntKind.i64 64] 3)) := ⟨_, rfl⟩
  rw [← hW5]
  obtain ⟨hs5, hB5, q0, q1, q2, q3, q4, q5⟩ := six_boxes w _ _ _ _ _ _ _ _ _ _ _ _ W5 hW5
  clear hW5
  have hl := h.lts
  have hlen : xs.length = n := hn
  have hI0 : WrI w p aa bb d K g f xs b off [] W5 := ⟨q0, q1, q2, by simpa using q3, by simpa [wrP, wrL] using h.on hB5, rfl, hby.on hB5, below_fd hB5 _ _ _, by omega⟩
  have hseq := chunk_stops 8 (by omega) (w.heap.size + 1 + 1 + 1 + 1) (w.heap.size + 1 + 1 + 1 + 1 + 1) b off n c (by omega) hcap W5 (by omega) (by omega) q4.cell q5.cell
  refine wpIn_rangeFunc_ownG wide_round (by omega) (gf := 78) (lb := #[.pointer (some ⟨w.heap.size + 1 + 1 + 1 + 1, 0, none⟩), .pointer (some ⟨w.heap.size + 1 + 1 + 1 + 1 + 1, 0, none⟩)]) rfl (wide_fn _) (enters_of Tryz.func78 (by kernel_rfl) rfl) hseq kpC_t ?kb (Below.refl _ _) (fun _ => rfl)
    (fun pre W => WrI w p aa bb d K g f xs b off pre W) (fun cc pre W => cc = .ret ∧ WrX w p aa bb d K g f xs pre W)
    (fun pre W W' row hi hg hr => WrI.grown hi hl hb hg (fun r e => by have := (hr r e).1; omega)) (fun cc pre W W' row hi hg hr => ⟨hi.1, WrX.grown hi.2 hl hg (fun r e => by have := (hr r e).1; omega)⟩) hI0
    (fun x => { tmps := #[.pointer (some ⟨p, 0, none⟩), .int .i64 g, .int .i64 f, .slice (some ⟨b, off, none⟩) n c, .pointer (some ⟨w.heap.size, 0, none⟩), .pointer (some ⟨w.heap.size + 1, 0, none⟩), undef, undef, .pointer (some ⟨w.heap.size + 1 + 1, 0, none⟩), .pointer (some ⟨w.heap.size + 1 + 1 + 1, 0, none⟩),
      .slice (some ⟨b, off + 64 * x, none⟩) (pLen n x) (pLen n x), undef, .int .i64 f, .slice (some ⟨b, off, none⟩) n c, .func (.func 78) #[] #[.pointer (some ⟨w.heap.size + 1 + 1 + 1 + 1, 0, none⟩), .pointer (some ⟨w.heap.size + 1 + 1 + 1 + 1 + 1, 0, none⟩)], .slice (some ⟨b, off + 64 * x, none⟩) (pLen n x) (pLen n x), undef, undef, undef, undef, undef, undef, undef, undef, undef, undef, undef, undef, undef], defers := [] })
    ?assign ?body ?done ?stop
  case kb =>
    intro W l o o' hl2 _ _ _
    exact ⟨World.putObj_heap_other (by omega), World.putObj_heap_other (by omega)⟩
  case assign =>
    intro l x W KK hK
    unfold pEnc
    gi_wp2
    exact hK
  case body =>
    rintro l pre x W hi hlt
    have HW : Hid (Calls Tryz.prog 17 #[.pointer (some ⟨p, 0, none⟩), .int .i64 g, .int .i64 (f + pre.length), .slice (some ⟨b, off + 64 * x, none⟩) (pLen n x) (pLen n x)] W fun e w' => e = .returned (errV (wrP d g f xs (pre ++ [x])).2) ∧ DevIn w' p aa bb (wrP d g f xs (pre ++ [x])).1 (K + (pre ++ [x]).length) ∧ Fd p aa bb W w') := by
      have := write_ hi.dev (g, f + pre.length) (some ⟨b, off + 64 * x, none⟩) (partB xs x) (pLen n x) (pLen n x) (part_in hi.byt x) (by rw [part_len, hlen]) (part_byte hx x) (by omega)
      rw [wrP_snoc x hi.good, List.length_append, hlen]
      exact this
    have hz := hi.sz
    have r0 := hi.bd.cell
    have r1 := hi.bg.cell
    have r3 := hi.bs.cell
    have HI := Lib.hid hi
    clear hi
    by_cases he : (wrP d g f xs (pre ++ [x])).2 = 0
    · rw [he] at HW
      have e0 : errV 0 = .nilIface := rfl
      rw [e0] at HW
      have hwr := wraps_i64'' (f + pre.length + 1) (by omega) (by omega)
      have HE := Lib.hid he
      clear he
      gi_wp2
      refine ⟨wide_fn _, (CallsIn.inRound l (callsIn_wide.2 HW.out)).mono ?_⟩
      rintro e w3 ⟨rfl, hd3, hf3⟩
      have key : ∀ k, k < w.heap.size + 1 + 1 + 1 + 1 + 1 + 1 → w.heap.size ≤ k → w3.heap[k]? = W.heap[k]? := fun k h1 h2 => hf3.block k (by omega) (by omega) (by omega) (by omega)
      have b3 : Boxed w3 (w.heap.size + 1 + 1 + 1) 3 (.int .i64 (f + pre.length)) := (key _ (by omega) (by omega)).trans HI.out.bs
      have s3 := b3.cell
      have t3 := b3.frozen
      have HD3 := Lib.hid (And.intro hd3 (And.intro hf3 (And.intro key b3)))
      clear hd3 hf3 key b3 HW
      gi_wp2
      have hi := HI.out
      obtain ⟨hd3, hf3, key, b3⟩ := HD3.out
      have hss : (w3.setCell ⟨w.heap.size + 1 + 1 + 1, 0, none⟩ (.int .i64 (f + pre.length + 1))).heap.size = w3.heap.size := by simp [World.setCell]
      refine ⟨keeps_of hf3 (by omega) (by omega), ⟨(heap_far _ (by omega)).trans (key _ (by omega) (by omega)), (heap_far _ (by omega)).trans (key _ (by omega) (by omega))⟩, ?_⟩
      refine ⟨(heap_far _ (by omega)).trans ((key _ (by omega) (by omega)).trans hi.bd), (heap_far _ (by omega)).trans ((key _ (by omega) (by omega)).trans hi.bg), (heap_far _ (by omega)).trans ((key _ (by omega) (by omega)).trans hi.be), ?_, ?_, HE.out, ?_, ?_, ?_⟩
      · have := b3.set (.int .i64 (f + pre.length + 1))
        rw [List.length_append, show f + ((pre.length + [x].length : Nat) : Int) = f + pre.length + 1 by simp; omega]
        exact this
      · exact hd3.keep (heap_far _ (by omega)) (heap_far _ (by omega)) (heap_far _ (by omega))
      · refine bytes_blk hi.byt (fun hb2 => (heap_far _ (by omega)).trans (hf3.block b hb2 hbn.1 hbn.2.1 hbn.2.2))
      · exact fd_set (hi.fd.trans hf3) (by omega)
      · have := hf3.size; rw [hss]; omega
    · obtain ⟨ev, hev⟩ : ∃ ev, ev = (wrP d g f xs (pre ++ [x])).2 := ⟨_, rfl⟩
      rw [← hev] at HW he
      have e0 : errV ev = .iface 56 (.int .i64 ev) := errV_not he
      rw [e0] at HW
      have HE := Lib.hid (And.intro he hev)
      clear he hev
      gi_wp2
      refine ⟨wide_fn _, (CallsIn.inRound l (callsIn_wide.2 HW.out)).mono ?_⟩
      rintro e w3 ⟨rfl, hd3, hf3⟩
      have key : ∀ k, k < w.heap.size + 1 + 1 + 1 + 1 + 1 + 1 → w.heap.size ≤ k → w3.heap[k]? = W.heap[k]? := fun k h1 h2 => hf3.block k (by omega) (by omega) (by omega) (by omega)
      have b3 : Boxed w3 (w.heap.size + 1 + 1) 27 .nilIface := (key _ (by omega) (by omega)).trans HI.out.be
      have s3 := b3.cell
      have t3 := b3.frozen
      have HD3 := Lib.hid (And.intro hd3 (And.intro hf3 (And.intro key b3)))
      clear hd3 hf3 key b3 HW
      gi_wp2
      have hi := HI.out
      obtain ⟨hd3, hf3, key, b3⟩ := HD3.out
      refine ⟨keeps_of hf3 (by omega) (by omega), rfl, ?_⟩
      refine ⟨?_, hd3.keep (heap_far _ (by omega)) (heap_far _ (by omega)) (heap_far _ (by omega)), by rw [← HE.out.2]; exact HE.out.1, fd_set (hi.fd.trans hf3) (by omega)⟩
      rw [← HE.out.2, e0]
      exact b3.set _
  case done =>
    rintro D ys W hD rfl hi hK5
    have hlr : (List.range ((n + 63) / 64)).length = (n + 63) / 64 := List.length_range
    have hchk : wrP d g f xs (List.range ((n + 63) / 64)) = wrL d g f (chk xs) := by unfold wrP; rw [chk_range, hlen]
    have hdv := hi.dev
    have hgd := hi.good
    rw [hchk] at hdv hgd
    rw [hlr] at hdv
    obtain ⟨D1, hD1⟩ : ∃ D1, D1 = (wrL d g f (chk xs)).1 := ⟨_, rfl⟩
    rw [← hD1] at hdv
    have HS := Lib.hid (sync_ hdv g)
    have r0 := hi.bd.cell
    have r1 := hi.bg.cell
    have hz := hi.sz
    have HI := Lib.hid (And.intro hi hK5)
    have HC := Lib.hid (And.intro hD1 (And.intro hgd hchk))
    clear hi hdv hK5 hI0 hseq hD1 hgd hchk
    obtain ⟨ev, hev⟩ : ∃ ev, ev = errV (sErr D1 g) := ⟨_, rfl⟩
    rw [← hev] at HS
    have hone : ev.oneCell' = true := by rw [hev]; unfold errV; split <;> rfl
    gi_wp2
    refine ⟨wide_fn _, (callsIn_wide.2 HS.out).mono ?_⟩
    rintro e w3 ⟨rfl, hd3, hf3⟩
    have b3 : Boxed w3 (w.heap.size + 1 + 1) 27 .nilIface := (hf3.block _ (by omega) (by omega) (by omega) (by omega)).trans HI.out.1.be
    have s3 := b3.cell
    have t3 := b3.frozen
    have HD3 := Lib.hid (And.intro hd3 (And.intro hf3 b3))
    clear hd3 hf3 b3 HS
    have hcs : ev = .nilIface ∨ ∃ q : Nat, ev = .iface 56 (.int .i64 q) := by
      rw [hev]; unfold errV; split
      · exact .inl rfl
      · exact .inr ⟨_, rfl⟩
    have HEV := Lib.hid hev
    have HKD := Lib.hid (And.intro HI.out.2 HI.out.1)
    clear hev hone HI
    have hfin : ∀ V, V = w3.setCell ⟨w.heap.size + 1 + 1, 0, none⟩ ev → V.heap[D]? = some (.deferred (some [])) ∧ Boxed V (w.heap.size + 1 + 1) 27 ev ∧ DevIn V p aa bb (syncD D1 g) (K + (n + 63) / 64) ∧ Fd p aa bb w V := by
      rintro V rfl
      obtain ⟨hd3, hf3, b3⟩ := HD3.out
      refine ⟨(heap_far _ (by omega)).trans ((hf3.block D (blk_lt HKD.out.1) (by omega) (by omega) (by omega)).trans HKD.out.1), b3.set _, hd3.keep (heap_far _ (by omega)) (heap_far _ (by omega)) (heap_far _ (by omega)), fd_set (HKD.out.2.fd.trans hf3) (by omega)⟩
    rcases hcs with rfl | ⟨q, rfl⟩
    all_goals
      gi_wp2
      obtain ⟨f1, f2, f3, f4⟩ := hfin _ rfl
      refine wr_end f1 f2 f3 f4 (by omega) (by omega) rfl rfl ?_
      rw [if_neg (by simpa using HC.out.2.1), if_neg (by simpa using HC.out.2.1), ← HC.out.1]
      exact ⟨HEV.out.symm ▸ rfl, rfl⟩
  case stop =>
    rintro D cc pre W hD ⟨kk, hkk, rfl⟩ ⟨rfl, hi⟩ hK5
    have hspl : List.range ((n + 63) / 64) = List.range kk ++ (List.range ((n + 63) / 64)).drop kk := by
      rw [← List.take_append_drop kk (List.range ((n + 63) / 64)), List.take_range, Nat.min_eq_left hkk]
      simp
    have hchk : wrL d g f (chk xs) = wrP d g f xs (List.range kk) := by
      rw [chk_range, hlen, hspl, List.map_append]
      exact wrL_stop _ _ _ _ _ hi.bad
    have hdv := hi.dev.mono (K' := K + (n + 63) / 64) (by rw [List.length_range]; omega) (by omega)
    gi_wp2
    refine wr_end hK5 hi.be hdv hi.fd (by omega) hl rfl rfl ?_
    rw [hchk, if_pos hi.bad, if_pos hi.bad]
    exact ⟨rfl, rfl⟩
theorem twr_ {w : World} {p aa bb : Nat} {d : Dev} {K : Nat} (h : DevIn w p aa bb d K) (g f : Int) (b off n c : Nat) (xs : List Nat) (hby : BytesIn w (some ⟨b, off, none⟩) xs) (hb : b < w.heap.size) (hbn : b ≠ p ∧ b ≠ aa ∧ b ≠ bb) (hx : ∀ x ∈ xs, x < 256) (hn : xs.length = n) (hn2 : n ≤ 16777216) (hcap : n ≤ c) (hf0 : 0 ≤ f) (hf1 : f ≤ 16384) (hK : K + (n + 63) / 64 < 1000000) :
    Calls Tryz.prog 32 #[.pointer (some ⟨p, 0, none⟩), .int .i64 g, .int .i64 f, .slice (some ⟨b, off, none⟩) n c] w (WrPost w p aa bb d K g f xs n) :=
  callsIn_wide.1 (twr_in h g f b off n c xs hby hb hbn hx hn hn2 hcap hf0 hf1 hK)
end Go.Proofs.YthaihallfjjnpaaGreatDoor
