/- The walk of the document's Write. -/
import Derived.Test.YtjnhcanohefjiaaGreatDoorJRD
namespace Go.Proofs.YtjnhcanohefjiaaGreatDoor
open Go.RowKit Go.Sort Go.Maps

/-- A device stored whole. -/
theorem six_heap {w : World} {b : Nat} {x0 x1 x2 x3 x4 x5 : Value} {t : TypeId} (h : w.heap[b]? = some (.cells #[x0, x1, x2, x3, x4, x5] t (0, 0))) (v0 v1 v2 v3 v4 v5 : Value) :
    ((((((w.setCell ⟨b, 0, none⟩ v0).setCell ⟨b, 1, none⟩ v1).setCell ⟨b, 2, none⟩ v2).setCell ⟨b, 3, none⟩ v3).setCell ⟨b, 4, none⟩ v4).setCell ⟨b, 5, none⟩ v5).heap[b]? = some (.cells #[v0, v1, v2, v3, v4, v5] t (0, 0)) := by
  have := heap_set (o := 5) v5 (heap_set (o := 4) v4 (heap_set (o := 3) v3 (heap_set (o := 2) v2 (heap_set (o := 1) v1 (heap_set (o := 0) v0 h)))))
  simpa using this
theorem six_below {N b : Nat} {w0 w : World} (h : Below N w0 w) (hb : N ≤ b) (v0 v1 v2 v3 v4 v5 : Value) :
    Below N w0 ((((((w.setCell ⟨b, 0, none⟩ v0).setCell ⟨b, 1, none⟩ v1).setCell ⟨b, 2, none⟩ v2).setCell ⟨b, 3, none⟩ v3).setCell ⟨b, 4, none⟩ v4).setCell ⟨b, 5, none⟩ v5) :=
  below_set (below_set (below_set (below_set (below_set (below_set h hb _) hb _) hb _) hb _) hb _) hb _
theorem six_far {b k : Nat} (w : World) (hk : k ≠ b) (v0 v1 v2 v3 v4 v5 : Value) :
    ((((((w.setCell ⟨b, 0, none⟩ v0).setCell ⟨b, 1, none⟩ v1).setCell ⟨b, 2, none⟩ v2).setCell ⟨b, 3, none⟩ v3).setCell ⟨b, 4, none⟩ v4).setCell ⟨b, 5, none⟩ v5).heap[k]? = w.heap[k]? := by
  rw [heap_far _ hk, heap_far _ hk, heap_far _ hk, heap_far _ hk, heap_far _ hk, heap_far _ hk]
theorem OwnS.set {w : World} {N b o : Nat} {v : Value} {l : List RS} (h : OwnS w N v l) (hb : v.ownBlock ≠ some b) (u : Value) : OwnS (w.setCell ⟨b, o, none⟩ u) N v l := by
  refine ⟨h.1, ?_⟩
  rcases h.2 with h1 | ⟨g, cap, cur, e, h1, h2, h3, h4, h5, h6⟩
  · exact .inl h1
  · refine .inr ⟨g, cap, cur, e, h1, ?_, h3, h4, h5, h6⟩
    rw [heap_far _ (fun e' => hb (by rw [e, ← e']; rfl))]
    exact h2
theorem OwnS.lt {w : World} {N b : Nat} {v : Value} {l : List RS} (h : OwnS w N v l) (hb : w.heap.size ≤ b) : v.ownBlock ≠ some b := fun e => by
  have := (World.ownsRow.lt h b e).2
  omega
/-- What the document's Write hands back when the write comes to be. -/
def WroteTo (w : World) (r s lf : Int) (ar : Bool) (l : List RS) (e : Ending) (w' : World) : Prop :=
  (∃ a c, e = .returned (.tuple #[.agg #[.int .i64 r, .int .i64 s, .slice a l.length c, .bool (ar && decide (lf = 0)), .bool ar, .int .i64 (if ar = true ∧ lf = 0 then lf else wrap64 (lf - 1))], .int .i64 (if ar = true ∧ lf = 0 then 60 else 0)]) ∧ LstS w' a c l) ∧ Below w.heap.size w w'
theorem sec_five {w : World} {b : Nat} {g j : Int} {S N : Ct} {pe : Bool} {t : TypeId} {z : Nat × Nat} (h : w.heap[b]? = some (.cells #[.int .i64 g, .int .i64 j, .string (bs S), .string (bs N), .bool pe] t z)) : SecsIn w (some ⟨b, 0, none⟩) [⟨(g, j), S, N, pe⟩] := sec_one (x := ⟨(g, j), S, N, pe⟩) h
theorem wrote_fin {w w8 : World} {N B0 B1 k : Nat} {q : Array Value} {y0 y1 y2 y3 y4 y5 : Value} {a : Option Addr} {cc : Nat} {l : List RS} (hB : Below N w w8) (h0 : N ≤ B0) (h1 : N ≤ B1) (hne : B1 ≠ B0) (hg0 : w8.heap[B0]? = some (.cells q 33 (0, 0))) (hg1 : w8.heap[B1]? = some (.cells #[y0, y1, y2, y3, y4, y5] 33 (0, 0))) (hl : LstS w8 a cc l) (x u v0 v1 v2 v3 v4 v5 : Value) :
    (((((((((w8.setCell ⟨B0, 2, none⟩ x).setCell ⟨B0, k, none⟩ u).setCell ⟨B1, 0, none⟩ v0).setCell ⟨B1, 1, none⟩ v1).setCell ⟨B1, 2, none⟩ v2).setCell ⟨B1, 3, none⟩ v3).setCell ⟨B1, 4, none⟩ v4).setCell ⟨B1, 5, none⟩ v5).heap[B1]? = some (.cells #[v0, v1, v2, v3, v4, v5] 33 (0, 0)))
    ∧ LstS ((((((((w8.setCell ⟨B0, 2, none⟩ x).setCell ⟨B0, k, none⟩ u).setCell ⟨B1, 0, none⟩ v0).setCell ⟨B1, 1, none⟩ v1).setCell ⟨B1, 2, none⟩ v2).setCell ⟨B1, 3, none⟩ v3).setCell ⟨B1, 4, none⟩ v4).setCell ⟨B1, 5, none⟩ v5) a cc l
    ∧ Below N w ((((((((w8.setCell ⟨B0, 2, none⟩ x).setCell ⟨B0, k, none⟩ u).setCell ⟨B1, 0, none⟩ v0).setCell ⟨B1, 1, none⟩ v1).setCell ⟨B1, 2, none⟩ v2).setCell ⟨B1, 3, none⟩ v3).setCell ⟨B1, 4, none⟩ v4).setCell ⟨B1, 5, none⟩ v5) := by
  have hg2 : ((w8.setCell ⟨B0, 2, none⟩ x).setCell ⟨B0, k, none⟩ u).heap[B1]? = some (.cells #[y0, y1, y2, y3, y4, y5] 33 (0, 0)) := by rw [heap_far _ hne, heap_far _ hne]; exact hg1
  refine ⟨six_heap hg2 _ _ _ _ _ _, hl.stay fun k' cs z hk => ?_, six_below (below_set (below_set hB h0 _) h0 _) h1 _ _ _ _ _ _⟩
  · have k0 : k' ≠ B0 := fun e => by rw [e, hg0] at hk; simp only [Option.some.injEq, Obj.cells.injEq] at hk; exact absurd hk.2.1 (by decide)
    have k1 : k' ≠ B1 := fun e => by rw [e, hg1] at hk; simp only [Option.some.injEq, Obj.cells.injEq] at hk; exact absurd hk.2.1 (by decide)
    rw [six_far _ k1, heap_far _ k0, heap_far _ k0]
set_option maxRecDepth 100000 in
set_option maxHeartbeats 4000000 in
theorem rwrite_no1 (r s lf : Int) (cr ar : Bool) (a : Option Addr) (L c : Nat) (g j : Int) (t : ByteArray) (w : World) (hb : hasR r s (g, j) = false) :
    Calls Tryz.prog 59 #[.agg #[.int .i64 r, .int .i64 s, .slice a L c, .bool cr, .bool ar, .int .i64 lf], .int .i64 g, .int .i64 j, .string t] w fun e w' => e = .returned (.tuple #[.agg #[.int .i64 r, .int .i64 s, .slice a L c, .bool cr, .bool ar, .int .i64 lf], .int .i64 1]) ∧ Below w.heap.size w w' := by
  have HH : Hid (∀ V : World, Calls Tryz.prog 55 #[.agg #[.int .i64 r, .int .i64 s, .slice a L c, .bool cr, .bool ar, .int .i64 lf], .int .i64 g, .int .i64 j] V fun e w' => e = .returned (.bool (hasR r s (g, j))) ∧ Below V.heap.size V w') := fun V => rhas_ r s lf _ cr ar g j V
  obtain ⟨W, hW⟩ : ∃ W, W = (w.alloc (.cells #[.int .i64 r, .int .i64 s, .slice a L c, .bool cr, .bool ar, .int .i64 lf] 33)).alloc (.cells #[.int .i64 0, .int .i64 0, .slice none 0 0, .bool false, .bool false, .int .i64 0] 33) := ⟨_, rfl⟩
  have HB : Hid (Below w.heap.size w W) := by rw [hW]; exact below_two w _ _
  have HG : Hid (W.heap[w.heap.size]? = some (.cells #[.int .i64 r, .int .i64 s, .slice a L c, .bool cr, .bool ar, .int .i64 lf] 33 (0, 0))) := by rw [hW]; exact (heap_two w _ _).2
  have HG' : Hid (W.heap[w.heap.size + 1]? = some (.cells #[.int .i64 0, .int .i64 0, .slice none 0 0, .bool false, .bool false, .int .i64 0] 33 (0, 0))) := by rw [hW]; exact (heap_two w _ _).1
  have HW := Lib.hid hW
  clear hW
  rw [hb] at HH

  go_enter Tryz.func59, Tryz.ntmps59
  go_wp2_with fail
  rw [← HW.out]
  clear HW
  refine (HH.out W).mono ?_
  rintro e w1 ⟨rfl, hb1⟩
  have HB1 := Lib.hid (below_step HB.out hb1)
  have HG1 := Lib.hid ((hb1.block _ (blk_lt HG.out)).trans HG.out)
  have HG1' := Lib.hid ((hb1.block _ (blk_lt HG'.out)).trans HG'.out)
  clear hb1 HB HG HG' HH
  obtain ⟨c0, c1, c2, c3, c4, c5⟩ := rd_cells HG1.out
  obtain ⟨d0, d1, d2, d3, d4, d5⟩ := rd_cells HG1'.out
  have F1 := Lib.hid (fun o => frozen_of (o := o) HG1'.out)
  have f0 := F1.out 0
  have f1 := F1.out 1
  have f2 := F1.out 2
  have f3 := F1.out 3
  have f4 := F1.out 4
  have f5 := F1.out 5
  go_wp2_with fail

  exact bodyPost_ret (results_rd rfl _ _ (w.heap.size + 1) _ _ rfl rfl (six_heap HG1'.out _ _ _ _ _ _) rfl) rfl ⟨rfl, six_below HB1.out (by omega) _ _ _ _ _ _⟩
set_option maxRecDepth 100000 in
set_option maxHeartbeats 4000000 in
theorem rwrite_no2 (r s lf : Int) (cr ar : Bool) (a : Option Addr) (L c : Nat) (g j : Int) (t : ByteArray) (w : World) (hb : hasR r s (g, j) = true) (ht : 64 < t.size) :
    Calls Tryz.prog 59 #[.agg #[.int .i64 r, .int .i64 s, .slice a L c, .bool cr, .bool ar, .int .i64 lf], .int .i64 g, .int .i64 j, .string t] w fun e w' => e = .returned (.tuple #[.agg #[.int .i64 r, .int .i64 s, .slice a L c, .bool cr, .bool ar, .int .i64 lf], .int .i64 2]) ∧ Below w.heap.size w w' := by
  have HH : Hid (∀ V : World, Calls Tryz.prog 55 #[.agg #[.int .i64 r, .int .i64 s, .slice a L c, .bool cr, .bool ar, .int .i64 lf], .int .i64 g, .int .i64 j] V fun e w' => e = .returned (.bool (hasR r s (g, j))) ∧ Below V.heap.size V w') := fun V => rhas_ r s lf _ cr ar g j V
  obtain ⟨W, hW⟩ : ∃ W, W = (w.alloc (.cells #[.int .i64 r, .int .i64 s, .slice a L c, .bool cr, .bool ar, .int .i64 lf] 33)).alloc (.cells #[.int .i64 0, .int .i64 0, .slice none 0 0, .bool false, .bool false, .int .i64 0] 33) := ⟨_, rfl⟩
  have HB : Hid (Below w.heap.size w W) := by rw [hW]; exact below_two w _ _
  have HG : Hid (W.heap[w.heap.size]? = some (.cells #[.int .i64 r, .int .i64 s, .slice a L c, .bool cr, .bool ar, .int .i64 lf] 33 (0, 0))) := by rw [hW]; exact (heap_two w _ _).2
  have HG' : Hid (W.heap[w.heap.size + 1]? = some (.cells #[.int .i64 0, .int .i64 0, .slice none 0 0, .bool false, .bool false, .int .i64 0] 33 (0, 0))) := by rw [hW]; exact (heap_two w _ _).1
  have HW := Lib.hid hW
  clear hW
  rw [hb] at HH
  have k1 : decide ((t.size : Int) > 64) = true := decide_eq_true (by omega)

  go_enter Tryz.func59, Tryz.ntmps59
  go_wp2_with fail
  rw [← HW.out]
  clear HW
  refine (HH.out W).mono ?_
  rintro e w1 ⟨rfl, hb1⟩
  have HB1 := Lib.hid (below_step HB.out hb1)
  have HG1 := Lib.hid ((hb1.block _ (blk_lt HG.out)).trans HG.out)
  have HG1' := Lib.hid ((hb1.block _ (blk_lt HG'.out)).trans HG'.out)
  clear hb1 HB HG HG' HH
  obtain ⟨c0, c1, c2, c3, c4, c5⟩ := rd_cells HG1.out
  obtain ⟨d0, d1, d2, d3, d4, d5⟩ := rd_cells HG1'.out
  have F1 := Lib.hid (fun o => frozen_of (o := o) HG1'.out)
  have f0 := F1.out 0
  have f1 := F1.out 1
  have f2 := F1.out 2
  have f3 := F1.out 3
  have f4 := F1.out 4
  have f5 := F1.out 5
  go_wp2_with fail

  exact bodyPost_ret (results_rd rfl _ _ (w.heap.size + 1) _ _ rfl rfl (six_heap HG1'.out _ _ _ _ _ _) rfl) rfl ⟨rfl, six_below HB1.out (by omega) _ _ _ _ _ _⟩
set_option maxRecDepth 100000 in
set_option maxHeartbeats 4000000 in
theorem rwrite_no3 (r s lf : Int) (ar : Bool) (a : Option Addr) (L c : Nat) (g j : Int) (t : ByteArray) (w : World) (hb : hasR r s (g, j) = true) (ht : t.size ≤ 64) :
    Calls Tryz.prog 59 #[.agg #[.int .i64 r, .int .i64 s, .slice a L c, .bool true, .bool ar, .int .i64 lf], .int .i64 g, .int .i64 j, .string t] w fun e w' => e = .returned (.tuple #[.agg #[.int .i64 r, .int .i64 s, .slice a L c, .bool true, .bool ar, .int .i64 lf], .int .i64 60]) ∧ Below w.heap.size w w' := by
  have HH : Hid (∀ V : World, Calls Tryz.prog 55 #[.agg #[.int .i64 r, .int .i64 s, .slice a L c, .bool true, .bool ar, .int .i64 lf], .int .i64 g, .int .i64 j] V fun e w' => e = .returned (.bool (hasR r s (g, j))) ∧ Below V.heap.size V w') := fun V => rhas_ r s lf _ true ar g j V
  obtain ⟨W, hW⟩ : ∃ W, W = (w.alloc (.cells #[.int .i64 r, .int .i64 s, .slice a L c, .bool true, .bool ar, .int .i64 lf] 33)).alloc (.cells #[.int .i64 0, .int .i64 0, .slice none 0 0, .bool false, .bool false, .int .i64 0] 33) := ⟨_, rfl⟩
  have HB : Hid (Below w.heap.size w W) := by rw [hW]; exact below_two w _ _
  have HG : Hid (W.heap[w.heap.size]? = some (.cells #[.int .i64 r, .int .i64 s, .slice a L c, .bool true, .bool ar, .int .i64 lf] 33 (0, 0))) := by rw [hW]; exact (heap_two w _ _).2
  have HG' : Hid (W.heap[w.heap.size + 1]? = some (.cells #[.int .i64 0, .int .i64 0, .slice none 0 0, .bool false, .bool false, .int .i64 0] 33 (0, 0))) := by rw [hW]; exact (heap_two w _ _).1
  have HW := Lib.hid hW
  clear hW
  rw [hb] at HH
  have k1 : decide ((t.size : Int) > 64) = false := decide_eq_false (by omega)

  go_enter Tryz.func59, Tryz.ntmps59
  go_wp2_with fail
  rw [← HW.out]
  clear HW
  refine (HH.out W).mono ?_
  rintro e w1 ⟨rfl, hb1⟩
  have HB1 := Lib.hid (below_step HB.out hb1)
  have HG1 := Lib.hid ((hb1.block _ (blk_lt HG.out)).trans HG.out)
  have HG1' := Lib.hid ((hb1.block _ (blk_lt HG'.out)).trans HG'.out)
  clear hb1 HB HG HG' HH
  obtain ⟨c0, c1, c2, c3, c4, c5⟩ := rd_cells HG1.out
  obtain ⟨d0, d1, d2, d3, d4, d5⟩ := rd_cells HG1'.out
  have F1 := Lib.hid (fun o => frozen_of (o := o) HG1'.out)
  have f0 := F1.out 0
  have f1 := F1.out 1
  have f2 := F1.out 2
  have f3 := F1.out 3
  have f4 := F1.out 4
  have f5 := F1.out 5
  go_wp2_with fail

  exact bodyPost_ret (results_rd rfl _ _ (w.heap.size + 1) _ _ rfl rfl (six_heap HG1'.out _ _ _ _ _ _) rfl) rfl ⟨rfl, six_below HB1.out (by omega) _ _ _ _ _ _⟩
set_option maxRecDepth 100000 in
set_option maxHeartbeats 4000000 in
theorem rwrite_is (r s lf : Int) (ar : Bool) (b o L c : Nat) (l : List RS) (g j : Int) (xs : List Nat) (w : World) (hb : hasR r s (g, j) = true) (hx : ∀ x ∈ xs, x < 256) (ht : xs.length ≤ 64) (hl : L ≤ 1000) (i : Nat) (hfind : ∀ V : World, Below w.heap.size w V → Calls Tryz.prog 56 #[.agg #[.int .i64 r, .int .i64 s, .slice (some ⟨b, o, none⟩) L c, .bool false, .bool ar, .int .i64 lf], .int .i64 g, .int .i64 j] V fun e w' => e = .returned (.tuple #[.int .i64 (i : Int), .bool true]) ∧ Below V.heap.size V w') (hfi : FindIs l (g, j) i true) (hL : L = l.length) (hc : L ≤ c) (h : SecsIn w (some ⟨b, o, none⟩) l) :
    Calls Tryz.prog 59 #[.agg #[.int .i64 r, .int .i64 s, .slice (some ⟨b, o, none⟩) L c, .bool false, .bool ar, .int .i64 lf], .int .i64 g, .int .i64 j, .string (bs xs)] w (WroteTo w r s lf ar (putR l (g, j) (fillC xs))) := by
  have HH : Hid (∀ V : World, Calls Tryz.prog 55 #[.agg #[.int .i64 r, .int .i64 s, .slice (some ⟨b, o, none⟩) L c, .bool false, .bool ar, .int .i64 lf], .int .i64 g, .int .i64 j] V fun e w' => e = .returned (.bool (hasR r s (g, j))) ∧ Below V.heap.size V w') := fun V => rhas_ r s lf _ false ar g j V
  obtain ⟨W, hW⟩ : ∃ W, W = (w.alloc (.cells #[.int .i64 r, .int .i64 s, .slice (some ⟨b, o, none⟩) L c, .bool false, .bool ar, .int .i64 lf] 33)).alloc (.cells #[.int .i64 0, .int .i64 0, .slice none 0 0, .bool false, .bool false, .int .i64 0] 33) := ⟨_, rfl⟩
  have HB : Hid (Below w.heap.size w W) := by rw [hW]; exact below_two w _ _
  have HG : Hid (W.heap[w.heap.size]? = some (.cells #[.int .i64 r, .int .i64 s, .slice (some ⟨b, o, none⟩) L c, .bool false, .bool ar, .int .i64 lf] 33 (0, 0))) := by rw [hW]; exact (heap_two w _ _).2
  have HG' : Hid (W.heap[w.heap.size + 1]? = some (.cells #[.int .i64 0, .int .i64 0, .slice none 0 0, .bool false, .bool false, .int .i64 0] 33 (0, 0))) := by rw [hW]; exact (heap_two w _ _).1
  have HW := Lib.hid hW
  clear hW

  rw [hb] at HH
  have HF := Lib.hid hfind
  have HFI := Lib.hid hfi
  have HL := Lib.hid hL
  have HC : Hid (∀ V : World, Calls Tryz.prog 57 #[.string (bs xs)] V fun e w' => e = .returned (.string (bs (fillC xs))) ∧ Below V.heap.size V w') := fun V => rfilled_ xs V hx ht
  have HZ : Hid (∀ V : World, Calls Tryz.prog 57 #[.string ⟨#[]⟩] V fun e w' => e = .returned (.string (bs zeroC)) ∧ Below V.heap.size V w') := fun V => rfilled_ [] V (fun x hx => by simp at hx) (by simp)
  have k1 : decide (((bs xs).size : Int) > 64) = false := decide_eq_false (by rw [bs_size]; omega)
  have HI := Lib.hid h
  clear h
  clear hb hx ht hfind hfi

  obtain ⟨hi, hkey, _⟩ := find_yes HFI.out
  have HP := Lib.hid (put_yes HFI.out hi (fillC xs))
  have hiL : i < L := by rw [hL]; exact hi
  have htl : (l.take i).length = i := by rw [List.length_take]; omega
  have hdl : (l.drop (i + 1)).length = L - (i + 1) := by rw [List.length_drop, hL]
  have HDR : Hid (∀ W a', SecsIn W (some ⟨b, o, none⟩) l → (a' = some ⟨b, o + (i + 1) * 5, none⟩ ∨ L = i + 1) → SecsIn W a' (l.drop (i + 1))) := fun W a' h1 h2 => by
    rcases h2 with rfl | h2
    · exact h1.drop (i + 1)
    · rw [List.drop_eq_nil_of_le (by rw [← HL.out]; omega)]; exact secsIn_nil _ _
  clear hL

  obtain ⟨ii, hii⟩ : ∃ ii : Int, ii = (i : Int) := ⟨_, rfl⟩
  have n1 : (0 : Int) ≤ (i : Int) := by omega
  have n2 : (i : Int) < (L : Int) := by omega
  have n3 : (i : Int) ≤ (c : Int) := by omega
  have n4 : (i : Int) ≤ (L : Int) := by omega
  have n5 : (i : Int) + 1 ≤ (L : Int) := by omega
  have n6 : (i : Int) + 1 ≤ (c : Int) := by omega
  have n7 : (0 : Int) ≤ (i : Int) + 1 := by omega
  have n8 : ((i : Int) + 1).toNat = i + 1 := by omega
  have n9 : IntKind.i64.wrap ((i : Int) + 1) = (i : Int) + 1 := by simp [IntKind.wrap, IntKind.bits, IntKind.signed]; omega
  have n10 : (c = i) = False := eq_false (by omega)
  have m1 : i ≤ c := by omega
  have m2 : i ≤ L := by omega
  have m3 : i + 1 ≤ c := by omega
  have m4 : i + 1 ≤ L := by omega
  clear hii ii

  go_enter Tryz.func59, Tryz.ntmps59
  go_wp2_with fail
  rw [← HW.out]
  clear HW
  refine (HH.out W).mono ?_
  rintro e w1 ⟨rfl, hb1⟩
  have HB1 := Lib.hid (below_step HB.out hb1)
  have HG1 := Lib.hid ((hb1.block _ (blk_lt HG.out)).trans HG.out)
  have HG1' := Lib.hid ((hb1.block _ (blk_lt HG'.out)).trans HG'.out)
  clear hb1 HB HG HG' HH
  obtain ⟨c0, c1, c2, c3, c4, c5⟩ := rd_cells HG1.out
  obtain ⟨d0, d1, d2, d3, d4, d5⟩ := rd_cells HG1'.out
  have F1 := Lib.hid (fun o => frozen_of (o := o) HG1'.out)
  have f0 := F1.out 0
  have f1 := F1.out 1
  have f2 := F1.out 2
  have f3 := F1.out 3
  have f4 := F1.out 4
  have f5 := F1.out 5

  clear f0 f1 f2 f3 f4 f5 d0 d1 d2 d3 d4 d5 F1
  generalize hsx : bs xs = sx at *
  go_wp2_with fail
  refine (HF.out w1 HB1.out).mono ?_
  rintro e w2 ⟨rfl, hb2⟩
  have HB2 := Lib.hid (below_step HB1.out hb2)
  have HG2 := Lib.hid ((hb2.block _ (blk_lt HG1.out)).trans HG1.out)
  have HG2' := Lib.hid ((hb2.block _ (blk_lt HG1'.out)).trans HG1'.out)
  clear hb2 HB1 HG1 HG1' HF c0 c1 c2 c3 c4 c5
  obtain ⟨c0, c1, c2, c3, c4, c5⟩ := rd_cells HG2.out

  go_wp2_with (first
    | (at_builtin; refine wpList_append_secs w2.heap.size _ w2 rfl _ _ rfl (.slice none 0 0) [] (l.take i) rfl (ownS_nil _ _) (some ⟨b, o, none⟩) i c rfl htl (fun hh => by cases hh) ((HI.out.on HB2.out).take i) (by rw [htl]; simp; omega) (Nat.le_refl _) (Below.refl _ _) ?_
       intro v1 w3 hown1 hb3 _
       have HO3 := Lib.hid hown1
       have HB3 := Lib.hid hb3
       clear hown1 hb3 c0 c1 c2 c3 c4 c5)
    | fail)
  refine (HZ.out w3).mono ?_
  rintro e w4 ⟨rfl, hb4⟩
  have HB4 := Lib.hid (HB3.out.trans (hb4.mono HB3.out.size))
  have HO4 := Lib.hid (HO3.out.on hb4)
  clear hb4 HO3 HB3 HZ
  have c2 := fun o' => (rd_cells (alloc_old (o := o') ((HB4.out.block _ (blk_lt HG2.out)).trans HG2.out))).2.2.1

  have hsec := HI.out.on (below_step HB2.out HB4.out)
  have HQ : Hid (∀ o', SecAt (w4.alloc o') b (o + i * 5) l[i]) := fun o' => by
    obtain ⟨b', o2, e, h1⟩ := hsec i hi
    cases e
    exact h1.on (below_alloc w4 o')
  have q0 := fun o' => (HQ.out o').cells.1
  have q1 := fun o' => (HQ.out o').cells.2.1
  have q2 := fun o' => (HQ.out o').cells.2.2.1
  have q3 := fun o' => (HQ.out o').cells.2.2.2.1
  have q4 := fun o' => (HQ.out o').cells.2.2.2.2
  clear hsec
  rw [hkey] at q0 q1
  simp only at q0 q1
  generalize hsa : bs (l[i]).safe = sa at *
  generalize bs (l[i]).now = no at *
  generalize (l[i]).pend = pe at *

  generalize hz : bs zeroC = z at *
  generalize hfx : bs (fillC xs) = fx at *
  go_wp2_with fail
  all_goals
    refine (HC.out _).mono ?_
    rintro e w5 ⟨rfl, hb5⟩
    have hx5 : w5.heap[w4.heap.size]? = some (.cells #[.int .i64 g, .int .i64 j, .string sa, .string no, .bool pe] 110 (0, 0)) := (hb5.block _ (by simp)).trans (alloc_at w4 _)
    have hBx := below_step (below_alloc w4 (.cells #[.int .i64 g, .int .i64 j, .string sa, .string no, .bool pe] 110)) hb5
    have x0 : w5.cell? ⟨w4.heap.size, 0, none⟩ = _ := cell_of hx5 rfl
    have x1 : w5.cell? ⟨w4.heap.size, 1, none⟩ = _ := cell_of hx5 rfl
    have x2 : w5.cell? ⟨w4.heap.size, 2, none⟩ = _ := cell_of hx5 rfl
    have x3 : w5.cell? ⟨w4.heap.size, 3, none⟩ = _ := cell_of hx5 rfl
    have x4 : w5.cell? ⟨w4.heap.size, 4, none⟩ = _ := cell_of hx5 rfl
    have y3 : w5.frozen? ⟨w4.heap.size, 3, none⟩ = false := frozen_of hx5
    have y4 : w5.frozen? ⟨w4.heap.size, 4, none⟩ = false := frozen_of hx5
    have hXn : v1.ownBlock ≠ some w4.heap.size := HO4.out.lt (Nat.le_refl _)
    have hXs := HB4.out.size
    have HO6 : Hid (OwnS ((w5.setCell ⟨w4.heap.size, 3, none⟩ (.string fx)).setCell ⟨w4.heap.size, 4, none⟩ (.bool true)) w2.heap.size v1 ([] ++ l.take i)) := ((HO4.out.on hBx).set hXn _).set hXn _
    have HB6 : Hid (Below w2.heap.size w2 ((w5.setCell ⟨w4.heap.size, 3, none⟩ (.string fx)).setCell ⟨w4.heap.size, 4, none⟩ (.bool true))) := below_set (below_set (HB4.out.trans (hBx.mono hXs)) hXs _) hXs _
    have HN6 : Hid (∀ o', (((w5.setCell ⟨w4.heap.size, 3, none⟩ (.string fx)).setCell ⟨w4.heap.size, 4, none⟩ (.bool true)).alloc o').heap[w5.heap.size]? = some o') := fun o' => by
      have := alloc_at ((w5.setCell ⟨w4.heap.size, 3, none⟩ (.string fx)).setCell ⟨w4.heap.size, 4, none⟩ (.bool true)) o'
      simpa using this
    clear hb5 hBx hx5 hXn HB4 HO4 HC c2 q0 q1 q2 q3 q4 HQ
    have HT : Hid (w2.heap.size ≤ w4.heap.size) := hXs
    clear hXs
    cases ar
    · skip
      go_wp2_with (first
        | (at_builtin; subst hfx; subst hsa; refine wpList_append_secs w2.heap.size _ w2 rfl _ _ rfl v1 ([] ++ l.take i) [⟨(g, j), (l[i]).safe, fillC xs, true⟩] rfl (HO6.out.on (below_alloc _ _)) (some ⟨w5.heap.size, 0, none⟩) 1 1 rfl rfl (fun hh => by cases hh) (sec_five (HN6.out _)) (by simp [htl]; omega) (Nat.le_refl _) (HB6.out.alloc HB6.out.size _) ?_
           intro v2 w7 hown2 hb7 _
           have HO7 := Lib.hid hown2
           have HB7 := Lib.hid hb7
           clear hown2 hb7 x0 x1 x2 x3 x4 y3 y4 HO6 HB6)
        | (at_builtin; refine wpList_append_secs w2.heap.size _ w2 rfl _ _ rfl v2 (([] ++ l.take i) ++ [⟨(g, j), (l[i]).safe, fillC xs, true⟩]) (l.drop (i + 1)) rfl HO7.out (some ⟨b, _, none⟩) (L - (i + 1)) _ rfl hdl (fun hh => by cases hh) (HDR.out _ _ ((HI.out.on HB2.out).on HB7.out) (by first | exact .inl rfl | (refine .inr ?_; omega))) (by rw [hdl]; simp [htl]; omega) (Nat.le_refl _) HB7.out ?_
           intro v3 w8 hown3 hb8 _
           have hown4 : OwnS w8 w2.heap.size v3 (putR l (g, j) (fillC xs)) := by rw [HP.out]; simpa using hown3
           obtain ⟨a3, cc3, rfl, hlst⟩ := hown4.lst
           have HLs := Lib.hid hlst
           have hg8 := (hb8.block _ (blk_lt HG2.out)).trans HG2.out
           have hg8' := (hb8.block _ (blk_lt HG2'.out)).trans HG2'.out
           have HG8' := Lib.hid hg8'
           have HG8 := Lib.hid hg8
           have HB8 := Lib.hid (below_step HB2.out hb8)
           obtain ⟨c0, c1, c2, c3, c4, c5⟩ := rd_cells hg8
           obtain ⟨d0, d1, d2, d3, d4, d5⟩ := rd_cells hg8'
           have e2 : w8.frozen? ⟨w.heap.size, 2, none⟩ = false := frozen_of hg8
           have e3 : w8.frozen? ⟨w.heap.size, 3, none⟩ = false := frozen_of hg8
           have e5 : w8.frozen? ⟨w.heap.size, 5, none⟩ = false := frozen_of hg8
           have f0 : w8.frozen? ⟨w.heap.size + 1, 0, none⟩ = false := frozen_of hg8'
           have f1 : w8.frozen? ⟨w.heap.size + 1, 1, none⟩ = false := frozen_of hg8'
           have f2 : w8.frozen? ⟨w.heap.size + 1, 2, none⟩ = false := frozen_of hg8'
           have f3 : w8.frozen? ⟨w.heap.size + 1, 3, none⟩ = false := frozen_of hg8'
           have f4 : w8.frozen? ⟨w.heap.size + 1, 4, none⟩ = false := frozen_of hg8'
           have f5 : w8.frozen? ⟨w.heap.size + 1, 5, none⟩ = false := frozen_of hg8'
           clear hown3 hown4 hlst hb8 hg8 hg8' HO7 HB7)
        | fail)
      have hfin := wrote_fin (k := 5) HB8.out (Nat.le_refl _) (Nat.le_succ _) (by omega) HG8.out HG8'.out HLs.out
      exact bodyPost_ret (results_rd rfl _ _ (w.heap.size + 1) _ _ rfl rfl (hfin _ _ _ _ _ _ _ _).1 rfl) rfl ⟨⟨a3, cc3, by simp, (hfin _ _ _ _ _ _ _ _).2.1⟩, (hfin _ _ _ _ _ _ _ _).2.2⟩
    · by_cases h0 : lf = 0
      · subst h0
        go_wp2_with (first
          | (at_builtin; subst hfx; subst hsa; refine wpList_append_secs w2.heap.size _ w2 rfl _ _ rfl v1 ([] ++ l.take i) [⟨(g, j), (l[i]).safe, fillC xs, true⟩] rfl (HO6.out.on (below_alloc _ _)) (some ⟨w5.heap.size, 0, none⟩) 1 1 rfl rfl (fun hh => by cases hh) (sec_five (HN6.out _)) (by simp [htl]; omega) (Nat.le_refl _) (HB6.out.alloc HB6.out.size _) ?_
             intro v2 w7 hown2 hb7 _
             have HO7 := Lib.hid hown2
             have HB7 := Lib.hid hb7
             clear hown2 hb7 x0 x1 x2 x3 x4 y3 y4 HO6 HB6)
          | (at_builtin; refine wpList_append_secs w2.heap.size _ w2 rfl _ _ rfl v2 (([] ++ l.take i) ++ [⟨(g, j), (l[i]).safe, fillC xs, true⟩]) (l.drop (i + 1)) rfl HO7.out (some ⟨b, _, none⟩) (L - (i + 1)) _ rfl hdl (fun hh => by cases hh) (HDR.out _ _ ((HI.out.on HB2.out).on HB7.out) (by first | exact .inl rfl | (refine .inr ?_; omega))) (by rw [hdl]; simp [htl]; omega) (Nat.le_refl _) HB7.out ?_
             intro v3 w8 hown3 hb8 _
             have hown4 : OwnS w8 w2.heap.size v3 (putR l (g, j) (fillC xs)) := by rw [HP.out]; simpa using hown3
             obtain ⟨a3, cc3, rfl, hlst⟩ := hown4.lst
             have HLs := Lib.hid hlst
             have hg8 := (hb8.block _ (blk_lt HG2.out)).trans HG2.out
             have hg8' := (hb8.block _ (blk_lt HG2'.out)).trans HG2'.out
             have HG8' := Lib.hid hg8'
             have HG8 := Lib.hid hg8
             have HB8 := Lib.hid (below_step HB2.out hb8)
             obtain ⟨c0, c1, c2, c3, c4, c5⟩ := rd_cells hg8
             obtain ⟨d0, d1, d2, d3, d4, d5⟩ := rd_cells hg8'
             have e2 : w8.frozen? ⟨w.heap.size, 2, none⟩ = false := frozen_of hg8
             have e3 : w8.frozen? ⟨w.heap.size, 3, none⟩ = false := frozen_of hg8
             have e5 : w8.frozen? ⟨w.heap.size, 5, none⟩ = false := frozen_of hg8
             have f0 : w8.frozen? ⟨w.heap.size + 1, 0, none⟩ = false := frozen_of hg8'
             have f1 : w8.frozen? ⟨w.heap.size + 1, 1, none⟩ = false := frozen_of hg8'
             have f2 : w8.frozen? ⟨w.heap.size + 1, 2, none⟩ = false := frozen_of hg8'
             have f3 : w8.frozen? ⟨w.heap.size + 1, 3, none⟩ = false := frozen_of hg8'
             have f4 : w8.frozen? ⟨w.heap.size + 1, 4, none⟩ = false := frozen_of hg8'
             have f5 : w8.frozen? ⟨w.heap.size + 1, 5, none⟩ = false := frozen_of hg8'
             clear hown3 hown4 hlst hb8 hg8 hg8' HO7 HB7)
          | fail)
        have hfin := wrote_fin (k := 3) HB8.out (Nat.le_refl _) (Nat.le_succ _) (by omega) HG8.out HG8'.out HLs.out
        exact bodyPost_ret (results_rd rfl _ _ (w.heap.size + 1) _ _ rfl rfl (hfin _ _ _ _ _ _ _ _).1 rfl) rfl ⟨⟨a3, cc3, by simp, (hfin _ _ _ _ _ _ _ _).2.1⟩, (hfin _ _ _ _ _ _ _ _).2.2⟩
      · have k0 : (lf == 0) = false := by simpa using h0
        go_wp2_with (first
          | (at_builtin; subst hfx; subst hsa; refine wpList_append_secs w2.heap.size _ w2 rfl _ _ rfl v1 ([] ++ l.take i) [⟨(g, j), (l[i]).safe, fillC xs, true⟩] rfl (HO6.out.on (below_alloc _ _)) (some ⟨w5.heap.size, 0, none⟩) 1 1 rfl rfl (fun hh => by cases hh) (sec_five (HN6.out _)) (by simp [htl]; omega) (Nat.le_refl _) (HB6.out.alloc HB6.out.size _) ?_
             intro v2 w7 hown2 hb7 _
             have HO7 := Lib.hid hown2
             have HB7 := Lib.hid hb7
             clear hown2 hb7 x0 x1 x2 x3 x4 y3 y4 HO6 HB6)
          | (at_builtin; refine wpList_append_secs w2.heap.size _ w2 rfl _ _ rfl v2 (([] ++ l.take i) ++ [⟨(g, j), (l[i]).safe, fillC xs, true⟩]) (l.drop (i + 1)) rfl HO7.out (some ⟨b, _, none⟩) (L - (i + 1)) _ rfl hdl (fun hh => by cases hh) (HDR.out _ _ ((HI.out.on HB2.out).on HB7.out) (by first | exact .inl rfl | (refine .inr ?_; omega))) (by rw [hdl]; simp [htl]; omega) (Nat.le_refl _) HB7.out ?_
             intro v3 w8 hown3 hb8 _
             have hown4 : OwnS w8 w2.heap.size v3 (putR l (g, j) (fillC xs)) := by rw [HP.out]; simpa using hown3
             obtain ⟨a3, cc3, rfl, hlst⟩ := hown4.lst
             have HLs := Lib.hid hlst
             have hg8 := (hb8.block _ (blk_lt HG2.out)).trans HG2.out
             have hg8' := (hb8.block _ (blk_lt HG2'.out)).trans HG2'.out
             have HG8' := Lib.hid hg8'
             have HG8 := Lib.hid hg8
             have HB8 := Lib.hid (below_step HB2.out hb8)
             obtain ⟨c0, c1, c2, c3, c4, c5⟩ := rd_cells hg8
             obtain ⟨d0, d1, d2, d3, d4, d5⟩ := rd_cells hg8'
             have e2 : w8.frozen? ⟨w.heap.size, 2, none⟩ = false := frozen_of hg8
             have e3 : w8.frozen? ⟨w.heap.size, 3, none⟩ = false := frozen_of hg8
             have e5 : w8.frozen? ⟨w.heap.size, 5, none⟩ = false := frozen_of hg8
             have f0 : w8.frozen? ⟨w.heap.size + 1, 0, none⟩ = false := frozen_of hg8'
             have f1 : w8.frozen? ⟨w.heap.size + 1, 1, none⟩ = false := frozen_of hg8'
             have f2 : w8.frozen? ⟨w.heap.size + 1, 2, none⟩ = false := frozen_of hg8'
             have f3 : w8.frozen? ⟨w.heap.size + 1, 3, none⟩ = false := frozen_of hg8'
             have f4 : w8.frozen? ⟨w.heap.size + 1, 4, none⟩ = false := frozen_of hg8'
             have f5 : w8.frozen? ⟨w.heap.size + 1, 5, none⟩ = false := frozen_of hg8'
             clear hown3 hown4 hlst hb8 hg8 hg8' HO7 HB7)
          | fail)
        have hfin := wrote_fin (k := 5) HB8.out (Nat.le_refl _) (Nat.le_succ _) (by omega) HG8.out HG8'.out HLs.out
        exact bodyPost_ret (results_rd rfl _ _ (w.heap.size + 1) _ _ rfl rfl (hfin _ _ _ _ _ _ _ _).1 rfl) rfl ⟨⟨a3, cc3, by simp [h0], (hfin _ _ _ _ _ _ _ _).2.1⟩, (hfin _ _ _ _ _ _ _ _).2.2⟩
set_option maxRecDepth 100000 in
set_option maxHeartbeats 4000000 in
theorem rwrite_not (r s lf : Int) (ar : Bool) (b o L c : Nat) (l : List RS) (g j : Int) (xs : List Nat) (w : World) (hb : hasR r s (g, j) = true) (hx : ∀ x ∈ xs, x < 256) (ht : xs.length ≤ 64) (hl : L ≤ 1000) (i : Nat) (hfind : ∀ V : World, Below w.heap.size w V → Calls Tryz.prog 56 #[.agg #[.int .i64 r, .int .i64 s, .slice (some ⟨b, o, none⟩) L c, .bool false, .bool ar, .int .i64 lf], .int .i64 g, .int .i64 j] V fun e w' => e = .returned (.tuple #[.int .i64 (i : Int), .bool false]) ∧ Below V.heap.size V w') (hfi : FindIs l (g, j) i false) (hL : L = l.length) (hc : L ≤ c) (h : SecsIn w (some ⟨b, o, none⟩) l) :
    Calls Tryz.prog 59 #[.agg #[.int .i64 r, .int .i64 s, .slice (some ⟨b, o, none⟩) L c, .bool false, .bool ar, .int .i64 lf], .int .i64 g, .int .i64 j, .string (bs xs)] w (WroteTo w r s lf ar (putR l (g, j) (fillC xs))) := by
  have HH : Hid (∀ V : World, Calls Tryz.prog 55 #[.agg #[.int .i64 r, .int .i64 s, .slice (some ⟨b, o, none⟩) L c, .bool false, .bool ar, .int .i64 lf], .int .i64 g, .int .i64 j] V fun e w' => e = .returned (.bool (hasR r s (g, j))) ∧ Below V.heap.size V w') := fun V => rhas_ r s lf _ false ar g j V
  obtain ⟨W, hW⟩ : ∃ W, W = (w.alloc (.cells #[.int .i64 r, .int .i64 s, .slice (some ⟨b, o, none⟩) L c, .bool false, .bool ar, .int .i64 lf] 33)).alloc (.cells #[.int .i64 0, .int .i64 0, .slice none 0 0, .bool false, .bool false, .int .i64 0] 33) := ⟨_, rfl⟩
  have HB : Hid (Below w.heap.size w W) := by rw [hW]; exact below_two w _ _
  have HG : Hid (W.heap[w.heap.size]? = some (.cells #[.int .i64 r, .int .i64 s, .slice (some ⟨b, o, none⟩) L c, .bool false, .bool ar, .int .i64 lf] 33 (0, 0))) := by rw [hW]; exact (heap_two w _ _).2
  have HG' : Hid (W.heap[w.heap.size + 1]? = some (.cells #[.int .i64 0, .int .i64 0, .slice none 0 0, .bool false, .bool false, .int .i64 0] 33 (0, 0))) := by rw [hW]; exact (heap_two w _ _).1
  have HW := Lib.hid hW
  clear hW

  rw [hb] at HH
  have HF := Lib.hid hfind
  have HFI := Lib.hid hfi
  have HL := Lib.hid hL
  have HC : Hid (∀ V : World, Calls Tryz.prog 57 #[.string (bs xs)] V fun e w' => e = .returned (.string (bs (fillC xs))) ∧ Below V.heap.size V w') := fun V => rfilled_ xs V hx ht
  have HZ : Hid (∀ V : World, Calls Tryz.prog 57 #[.string ⟨#[]⟩] V fun e w' => e = .returned (.string (bs zeroC)) ∧ Below V.heap.size V w') := fun V => rfilled_ [] V (fun x hx => by simp at hx) (by simp)
  have k1 : decide (((bs xs).size : Int) > 64) = false := decide_eq_false (by rw [bs_size]; omega)
  have HI := Lib.hid h
  clear h
  clear hb hx ht hfind hfi

  have HP := Lib.hid (put_no HFI.out (fillC xs))
  have hiL : i ≤ L := by rw [hL]; exact HFI.out.le
  have htl : (l.take i).length = i := by rw [List.length_take]; omega
  have hdl : (l.drop i).length = L - i := by rw [List.length_drop, hL]
  have HDR : Hid (∀ W a', SecsIn W (some ⟨b, o, none⟩) l → (a' = some ⟨b, o + i * 5, none⟩ ∨ L = i) → SecsIn W a' (l.drop i)) := fun W a' h1 h2 => by
    rcases h2 with rfl | h2
    · exact h1.drop i
    · rw [List.drop_eq_nil_of_le (by rw [← HL.out]; omega)]; exact secsIn_nil _ _
  clear hL

  have n1 : (0 : Int) ≤ (i : Int) := by omega
  have n3 : (i : Int) ≤ (c : Int) := by omega
  have n4 : (i : Int) ≤ (L : Int) := by omega
  have m1 : i ≤ c := by omega
  have m2 : i ≤ L := by omega

  go_enter Tryz.func59, Tryz.ntmps59
  go_wp2_with fail
  rw [← HW.out]
  clear HW
  refine (HH.out W).mono ?_
  rintro e w1 ⟨rfl, hb1⟩
  have HB1 := Lib.hid (below_step HB.out hb1)
  have HG1 := Lib.hid ((hb1.block _ (blk_lt HG.out)).trans HG.out)
  have HG1' := Lib.hid ((hb1.block _ (blk_lt HG'.out)).trans HG'.out)
  clear hb1 HB HG HG' HH
  obtain ⟨c0, c1, c2, c3, c4, c5⟩ := rd_cells HG1.out
  obtain ⟨d0, d1, d2, d3, d4, d5⟩ := rd_cells HG1'.out
  have F1 := Lib.hid (fun o => frozen_of (o := o) HG1'.out)
  have f0 := F1.out 0
  have f1 := F1.out 1
  have f2 := F1.out 2
  have f3 := F1.out 3
  have f4 := F1.out 4
  have f5 := F1.out 5

  clear f0 f1 f2 f3 f4 f5 d0 d1 d2 d3 d4 d5 F1
  generalize hsx : bs xs = sx at *
  go_wp2_with fail
  refine (HF.out w1 HB1.out).mono ?_
  rintro e w2 ⟨rfl, hb2⟩
  have HB2 := Lib.hid (below_step HB1.out hb2)
  have HG2 := Lib.hid ((hb2.block _ (blk_lt HG1.out)).trans HG1.out)
  have HG2' := Lib.hid ((hb2.block _ (blk_lt HG1'.out)).trans HG1'.out)
  clear hb2 HB1 HG1 HG1' HF c0 c1 c2 c3 c4 c5
  obtain ⟨c0, c1, c2, c3, c4, c5⟩ := rd_cells HG2.out

  go_wp2_with (first
    | (at_builtin; refine wpList_append_secs w2.heap.size _ w2 rfl _ _ rfl (.slice none 0 0) [] (l.take i) rfl (ownS_nil _ _) (some ⟨b, o, none⟩) i c rfl htl (fun hh => by cases hh) ((HI.out.on HB2.out).take i) (by rw [htl]; simp; omega) (Nat.le_refl _) (Below.refl _ _) ?_
       intro v1 w3 hown1 hb3 _
       have HO3 := Lib.hid hown1
       have HB3 := Lib.hid hb3
       clear hown1 hb3 c0 c1 c2 c3 c4 c5)
    | fail)
  refine (HZ.out w3).mono ?_
  rintro e w4 ⟨rfl, hb4⟩
  have HB4 := Lib.hid (HB3.out.trans (hb4.mono HB3.out.size))
  have HO4 := Lib.hid (HO3.out.on hb4)
  clear hb4 HO3 HB3 HZ
  have c2 := fun o' => (rd_cells (alloc_old (o := o') ((HB4.out.block _ (blk_lt HG2.out)).trans HG2.out))).2.2.1

  generalize hz : bs zeroC = z at *
  generalize hfx : bs (fillC xs) = fx at *
  go_wp2_with fail
  all_goals
    refine (HC.out _).mono ?_
    rintro e w5 ⟨rfl, hb5⟩
    have hx5 : w5.heap[w4.heap.size]? = some (.cells #[.int .i64 g, .int .i64 j, .string z, .string ⟨#[]⟩, .bool false] 110 (0, 0)) := (hb5.block _ (by simp)).trans (alloc_at w4 _)
    have hBx := below_step (below_alloc w4 (.cells #[.int .i64 g, .int .i64 j, .string z, .string ⟨#[]⟩, .bool false] 110)) hb5
    have x0 : w5.cell? ⟨w4.heap.size, 0, none⟩ = _ := cell_of hx5 rfl
    have x1 : w5.cell? ⟨w4.heap.size, 1, none⟩ = _ := cell_of hx5 rfl
    have x2 : w5.cell? ⟨w4.heap.size, 2, none⟩ = _ := cell_of hx5 rfl
    have x3 : w5.cell? ⟨w4.heap.size, 3, none⟩ = _ := cell_of hx5 rfl
    have x4 : w5.cell? ⟨w4.heap.size, 4, none⟩ = _ := cell_of hx5 rfl
    have y3 : w5.frozen? ⟨w4.heap.size, 3, none⟩ = false := frozen_of hx5
    have y4 : w5.frozen? ⟨w4.heap.size, 4, none⟩ = false := frozen_of hx5
    have hXn : v1.ownBlock ≠ some w4.heap.size := HO4.out.lt (Nat.le_refl _)
    have hXs := HB4.out.size
    have HO6 : Hid (OwnS ((w5.setCell ⟨w4.heap.size, 3, none⟩ (.string fx)).setCell ⟨w4.heap.size, 4, none⟩ (.bool true)) w2.heap.size v1 ([] ++ l.take i)) := ((HO4.out.on hBx).set hXn _).set hXn _
    have HB6 : Hid (Below w2.heap.size w2 ((w5.setCell ⟨w4.heap.size, 3, none⟩ (.string fx)).setCell ⟨w4.heap.size, 4, none⟩ (.bool true))) := below_set (below_set (HB4.out.trans (hBx.mono hXs)) hXs _) hXs _
    have HN6 : Hid (∀ o', (((w5.setCell ⟨w4.heap.size, 3, none⟩ (.string fx)).setCell ⟨w4.heap.size, 4, none⟩ (.bool true)).alloc o').heap[w5.heap.size]? = some o') := fun o' => by
      have := alloc_at ((w5.setCell ⟨w4.heap.size, 3, none⟩ (.string fx)).setCell ⟨w4.heap.size, 4, none⟩ (.bool true)) o'
      simpa using this
    clear hb5 hBx hx5 hXn HB4 HO4 HC c2
    have HT : Hid (w2.heap.size ≤ w4.heap.size) := hXs
    clear hXs
    cases ar
    · skip
      go_wp2_with (first
        | (at_builtin; subst hfx; subst hz; refine wpList_append_secs w2.heap.size _ w2 rfl _ _ rfl v1 ([] ++ l.take i) [⟨(g, j), zeroC, fillC xs, true⟩] rfl (HO6.out.on (below_alloc _ _)) (some ⟨w5.heap.size, 0, none⟩) 1 1 rfl rfl (fun hh => by cases hh) (sec_five (HN6.out _)) (by simp [htl]; omega) (Nat.le_refl _) (HB6.out.alloc HB6.out.size _) ?_
           intro v2 w7 hown2 hb7 _
           have HO7 := Lib.hid hown2
           have HB7 := Lib.hid hb7
           clear hown2 hb7 x0 x1 x2 x3 x4 y3 y4 HO6 HB6)
        | (at_builtin; refine wpList_append_secs w2.heap.size _ w2 rfl _ _ rfl v2 (([] ++ l.take i) ++ [⟨(g, j), zeroC, fillC xs, true⟩]) (l.drop i) rfl HO7.out (some ⟨b, _, none⟩) (L - i) _ rfl hdl (fun hh => by cases hh) (HDR.out _ _ ((HI.out.on HB2.out).on HB7.out) (by first | exact .inl rfl | (refine .inr ?_; omega))) (by rw [hdl]; simp [htl]; omega) (Nat.le_refl _) HB7.out ?_
           intro v3 w8 hown3 hb8 _
           have hown4 : OwnS w8 w2.heap.size v3 (putR l (g, j) (fillC xs)) := by rw [HP.out]; simpa using hown3
           obtain ⟨a3, cc3, rfl, hlst⟩ := hown4.lst
           have HLs := Lib.hid hlst
           have hg8 := (hb8.block _ (blk_lt HG2.out)).trans HG2.out
           have hg8' := (hb8.block _ (blk_lt HG2'.out)).trans HG2'.out
           have HG8' := Lib.hid hg8'
           have HG8 := Lib.hid hg8
           have HB8 := Lib.hid (below_step HB2.out hb8)
           obtain ⟨c0, c1, c2, c3, c4, c5⟩ := rd_cells hg8
           obtain ⟨d0, d1, d2, d3, d4, d5⟩ := rd_cells hg8'
           have e2 : w8.frozen? ⟨w.heap.size, 2, none⟩ = false := frozen_of hg8
           have e3 : w8.frozen? ⟨w.heap.size, 3, none⟩ = false := frozen_of hg8
           have e5 : w8.frozen? ⟨w.heap.size, 5, none⟩ = false := frozen_of hg8
           have f0 : w8.frozen? ⟨w.heap.size + 1, 0, none⟩ = false := frozen_of hg8'
           have f1 : w8.frozen? ⟨w.heap.size + 1, 1, none⟩ = false := frozen_of hg8'
           have f2 : w8.frozen? ⟨w.heap.size + 1, 2, none⟩ = false := frozen_of hg8'
           have f3 : w8.frozen? ⟨w.heap.size + 1, 3, none⟩ = false := frozen_of hg8'
           have f4 : w8.frozen? ⟨w.heap.size + 1, 4, none⟩ = false := frozen_of hg8'
           have f5 : w8.frozen? ⟨w.heap.size + 1, 5, none⟩ = false := frozen_of hg8'
           clear hown3 hown4 hlst hb8 hg8 hg8' HO7 HB7)
        | fail)
      have hfin := wrote_fin (k := 5) HB8.out (Nat.le_refl _) (Nat.le_succ _) (by omega) HG8.out HG8'.out HLs.out
      exact bodyPost_ret (results_rd rfl _ _ (w.heap.size + 1) _ _ rfl rfl (hfin _ _ _ _ _ _ _ _).1 rfl) rfl ⟨⟨a3, cc3, by simp, (hfin _ _ _ _ _ _ _ _).2.1⟩, (hfin _ _ _ _ _ _ _ _).2.2⟩
    · by_cases h0 : lf = 0
      · subst h0
        go_wp2_with (first
          | (at_builtin; subst hfx; subst hz; refine wpList_append_secs w2.heap.size _ w2 rfl _ _ rfl v1 ([] ++ l.take i) [⟨(g, j), zeroC, fillC xs, true⟩] rfl (HO6.out.on (below_alloc _ _)) (some ⟨w5.heap.size, 0, none⟩) 1 1 rfl rfl (fun hh => by cases hh) (sec_five (HN6.out _)) (by simp [htl]; omega) (Nat.le_refl _) (HB6.out.alloc HB6.out.size _) ?_
             intro v2 w7 hown2 hb7 _
             have HO7 := Lib.hid hown2
             have HB7 := Lib.hid hb7
             clear hown2 hb7 x0 x1 x2 x3 x4 y3 y4 HO6 HB6)
          | (at_builtin; refine wpList_append_secs w2.heap.size _ w2 rfl _ _ rfl v2 (([] ++ l.take i) ++ [⟨(g, j), zeroC, fillC xs, true⟩]) (l.drop i) rfl HO7.out (some ⟨b, _, none⟩) (L - i) _ rfl hdl (fun hh => by cases hh) (HDR.out _ _ ((HI.out.on HB2.out).on HB7.out) (by first | exact .inl rfl | (refine .inr ?_; omega))) (by rw [hdl]; simp [htl]; omega) (Nat.le_refl _) HB7.out ?_
             intro v3 w8 hown3 hb8 _
             have hown4 : OwnS w8 w2.heap.size v3 (putR l (g, j) (fillC xs)) := by rw [HP.out]; simpa using hown3
             obtain ⟨a3, cc3, rfl, hlst⟩ := hown4.lst
             have HLs := Lib.hid hlst
             have hg8 := (hb8.block _ (blk_lt HG2.out)).trans HG2.out
             have hg8' := (hb8.block _ (blk_lt HG2'.out)).trans HG2'.out
             have HG8' := Lib.hid hg8'
             have HG8 := Lib.hid hg8
             have HB8 := Lib.hid (below_step HB2.out hb8)
             obtain ⟨c0, c1, c2, c3, c4, c5⟩ := rd_cells hg8
             obtain ⟨d0, d1, d2, d3, d4, d5⟩ := rd_cells hg8'
             have e2 : w8.frozen? ⟨w.heap.size, 2, none⟩ = false := frozen_of hg8
             have e3 : w8.frozen? ⟨w.heap.size, 3, none⟩ = false := frozen_of hg8
             have e5 : w8.frozen? ⟨w.heap.size, 5, none⟩ = false := frozen_of hg8
             have f0 : w8.frozen? ⟨w.heap.size + 1, 0, none⟩ = false := frozen_of hg8'
             have f1 : w8.frozen? ⟨w.heap.size + 1, 1, none⟩ = false := frozen_of hg8'
             have f2 : w8.frozen? ⟨w.heap.size + 1, 2, none⟩ = false := frozen_of hg8'
             have f3 : w8.frozen? ⟨w.heap.size + 1, 3, none⟩ = false := frozen_of hg8'
             have f4 : w8.frozen? ⟨w.heap.size + 1, 4, none⟩ = false := frozen_of hg8'
             have f5 : w8.frozen? ⟨w.heap.size + 1, 5, none⟩ = false := frozen_of hg8'
             clear hown3 hown4 hlst hb8 hg8 hg8' HO7 HB7)
          | fail)
        have hfin := wrote_fin (k := 3) HB8.out (Nat.le_refl _) (Nat.le_succ _) (by omega) HG8.out HG8'.out HLs.out
        exact bodyPost_ret (results_rd rfl _ _ (w.heap.size + 1) _ _ rfl rfl (hfin _ _ _ _ _ _ _ _).1 rfl) rfl ⟨⟨a3, cc3, by simp, (hfin _ _ _ _ _ _ _ _).2.1⟩, (hfin _ _ _ _ _ _ _ _).2.2⟩
      · have k0 : (lf == 0) = false := by simpa using h0
        go_wp2_with (first
          | (at_builtin; subst hfx; subst hz; refine wpList_append_secs w2.heap.size _ w2 rfl _ _ rfl v1 ([] ++ l.take i) [⟨(g, j), zeroC, fillC xs, true⟩] rfl (HO6.out.on (below_alloc _ _)) (some ⟨w5.heap.size, 0, none⟩) 1 1 rfl rfl (fun hh => by cases hh) (sec_five (HN6.out _)) (by simp [htl]; omega) (Nat.le_refl _) (HB6.out.alloc HB6.out.size _) ?_
             intro v2 w7 hown2 hb7 _
             have HO7 := Lib.hid hown2
             have HB7 := Lib.hid hb7
             clear hown2 hb7 x0 x1 x2 x3 x4 y3 y4 HO6 HB6)
          | (at_builtin; refine wpList_append_secs w2.heap.size _ w2 rfl _ _ rfl v2 (([] ++ l.take i) ++ [⟨(g, j), zeroC, fillC xs, true⟩]) (l.drop i) rfl HO7.out (some ⟨b, _, none⟩) (L - i) _ rfl hdl (fun hh => by cases hh) (HDR.out _ _ ((HI.out.on HB2.out).on HB7.out) (by first | exact .inl rfl | (refine .inr ?_; omega))) (by rw [hdl]; simp [htl]; omega) (Nat.le_refl _) HB7.out ?_
             intro v3 w8 hown3 hb8 _
             have hown4 : OwnS w8 w2.heap.size v3 (putR l (g, j) (fillC xs)) := by rw [HP.out]; simpa using hown3
             obtain ⟨a3, cc3, rfl, hlst⟩ := hown4.lst
             have HLs := Lib.hid hlst
             have hg8 := (hb8.block _ (blk_lt HG2.out)).trans HG2.out
             have hg8' := (hb8.block _ (blk_lt HG2'.out)).trans HG2'.out
             have HG8' := Lib.hid hg8'
             have HG8 := Lib.hid hg8
             have HB8 := Lib.hid (below_step HB2.out hb8)
             obtain ⟨c0, c1, c2, c3, c4, c5⟩ := rd_cells hg8
             obtain ⟨d0, d1, d2, d3, d4, d5⟩ := rd_cells hg8'
             have e2 : w8.frozen? ⟨w.heap.size, 2, none⟩ = false := frozen_of hg8
             have e3 : w8.frozen? ⟨w.heap.size, 3, none⟩ = false := frozen_of hg8
             have e5 : w8.frozen? ⟨w.heap.size, 5, none⟩ = false := frozen_of hg8
             have f0 : w8.frozen? ⟨w.heap.size + 1, 0, none⟩ = false := frozen_of hg8'
             have f1 : w8.frozen? ⟨w.heap.size + 1, 1, none⟩ = false := frozen_of hg8'
             have f2 : w8.frozen? ⟨w.heap.size + 1, 2, none⟩ = false := frozen_of hg8'
             have f3 : w8.frozen? ⟨w.heap.size + 1, 3, none⟩ = false := frozen_of hg8'
             have f4 : w8.frozen? ⟨w.heap.size + 1, 4, none⟩ = false := frozen_of hg8'
             have f5 : w8.frozen? ⟨w.heap.size + 1, 5, none⟩ = false := frozen_of hg8'
             clear hown3 hown4 hlst hb8 hg8 hg8' HO7 HB7)
          | fail)
        have hfin := wrote_fin (k := 5) HB8.out (Nat.le_refl _) (Nat.le_succ _) (by omega) HG8.out HG8'.out HLs.out
        exact bodyPost_ret (results_rd rfl _ _ (w.heap.size + 1) _ _ rfl rfl (hfin _ _ _ _ _ _ _ _).1 rfl) rfl ⟨⟨a3, cc3, by simp [h0], (hfin _ _ _ _ _ _ _ _).2.1⟩, (hfin _ _ _ _ _ _ _ _).2.2⟩
set_option maxRecDepth 100000 in
set_option maxHeartbeats 4000000 in
theorem rwrite_nil (r s lf : Int) (ar : Bool) (L c : Nat) (g j : Int) (xs : List Nat) (w : World) (hb : hasR r s (g, j) = true) (hx : ∀ x ∈ xs, x < 256) (ht : xs.length ≤ 64) (hl : L ≤ 1000) (i : Nat) (hfind : ∀ V : World, Below w.heap.size w V → Calls Tryz.prog 56 #[.agg #[.int .i64 r, .int .i64 s, .slice none L c, .bool false, .bool ar, .int .i64 lf], .int .i64 g, .int .i64 j] V fun e w' => e = .returned (.tuple #[.int .i64 (i : Int), .bool false]) ∧ Below V.heap.size V w') (hfi : FindIs [] (g, j) i false) (hL : L = 0) (hc : c = 0) :
    Calls Tryz.prog 59 #[.agg #[.int .i64 r, .int .i64 s, .slice none L c, .bool false, .bool ar, .int .i64 lf], .int .i64 g, .int .i64 j, .string (bs xs)] w (WroteTo w r s lf ar (putR [] (g, j) (fillC xs))) := by
  have HH : Hid (∀ V : World, Calls Tryz.prog 55 #[.agg #[.int .i64 r, .int .i64 s, .slice none L c, .bool false, .bool ar, .int .i64 lf], .int .i64 g, .int .i64 j] V fun e w' => e = .returned (.bool (hasR r s (g, j))) ∧ Below V.heap.size V w') := fun V => rhas_ r s lf _ false ar g j V
  obtain ⟨W, hW⟩ : ∃ W, W = (w.alloc (.cells #[.int .i64 r, .int .i64 s, .slice none L c, .bool false, .bool ar, .int .i64 lf] 33)).alloc (.cells #[.int .i64 0, .int .i64 0, .slice none 0 0, .bool false, .bool false, .int .i64 0] 33) := ⟨_, rfl⟩
  have HB : Hid (Below w.heap.size w W) := by rw [hW]; exact below_two w _ _
  have HG : Hid (W.heap[w.heap.size]? = some (.cells #[.int .i64 r, .int .i64 s, .slice none L c, .bool false, .bool ar, .int .i64 lf] 33 (0, 0))) := by rw [hW]; exact (heap_two w _ _).2
  have HG' : Hid (W.heap[w.heap.size + 1]? = some (.cells #[.int .i64 0, .int .i64 0, .slice none 0 0, .bool false, .bool false, .int .i64 0] 33 (0, 0))) := by rw [hW]; exact (heap_two w _ _).1
  have HW := Lib.hid hW
  clear hW

  rw [hb] at HH
  have HF := Lib.hid hfind
  have HFI := Lib.hid hfi
  have HL := Lib.hid hL
  have HC : Hid (∀ V : World, Calls Tryz.prog 57 #[.string (bs xs)] V fun e w' => e = .returned (.string (bs (fillC xs))) ∧ Below V.heap.size V w') := fun V => rfilled_ xs V hx ht
  have HZ : Hid (∀ V : World, Calls Tryz.prog 57 #[.string ⟨#[]⟩] V fun e w' => e = .returned (.string (bs zeroC)) ∧ Below V.heap.size V w') := fun V => rfilled_ [] V (fun x hx => by simp at hx) (by simp)
  have k1 : decide (((bs xs).size : Int) > 64) = false := decide_eq_false (by rw [bs_size]; omega)
  clear hb hx ht hfind hfi

  subst hL hc
  obtain rfl : i = 0 := Nat.le_zero.1 HFI.out.le

  go_enter Tryz.func59, Tryz.ntmps59
  go_wp2_with fail
  rw [← HW.out]
  clear HW
  refine (HH.out W).mono ?_
  rintro e w1 ⟨rfl, hb1⟩
  have HB1 := Lib.hid (below_step HB.out hb1)
  have HG1 := Lib.hid ((hb1.block _ (blk_lt HG.out)).trans HG.out)
  have HG1' := Lib.hid ((hb1.block _ (blk_lt HG'.out)).trans HG'.out)
  clear hb1 HB HG HG' HH
  obtain ⟨c0, c1, c2, c3, c4, c5⟩ := rd_cells HG1.out
  obtain ⟨d0, d1, d2, d3, d4, d5⟩ := rd_cells HG1'.out
  have F1 := Lib.hid (fun o => frozen_of (o := o) HG1'.out)
  have f0 := F1.out 0
  have f1 := F1.out 1
  have f2 := F1.out 2
  have f3 := F1.out 3
  have f4 := F1.out 4
  have f5 := F1.out 5

  clear f0 f1 f2 f3 f4 f5 d0 d1 d2 d3 d4 d5 F1
  generalize hsx : bs xs = sx at *
  go_wp2_with fail
  refine (HF.out w1 HB1.out).mono ?_
  rintro e w2 ⟨rfl, hb2⟩
  have HB2 := Lib.hid (below_step HB1.out hb2)
  have HG2 := Lib.hid ((hb2.block _ (blk_lt HG1.out)).trans HG1.out)
  have HG2' := Lib.hid ((hb2.block _ (blk_lt HG1'.out)).trans HG1'.out)
  clear hb2 HB1 HG1 HG1' HF c0 c1 c2 c3 c4 c5
  obtain ⟨c0, c1, c2, c3, c4, c5⟩ := rd_cells HG2.out

  go_wp2_with (first
    | (at_builtin; refine wpList_append_secs w2.heap.size _ w2 rfl _ _ rfl (.slice none 0 0) [] [] rfl (ownS_nil _ _) none 0 0 rfl rfl (fun _ => rfl) (secsIn_nil _ _) (by simp) (Nat.le_refl _) (Below.refl _ _) ?_
       intro v1 w3 hown1 hb3 _
       have HO3 := Lib.hid hown1
       have HB3 := Lib.hid hb3
       clear hown1 hb3 c0 c1 c2 c3 c4 c5)
    | fail)
  refine (HZ.out w3).mono ?_
  rintro e w4 ⟨rfl, hb4⟩
  have HB4 := Lib.hid (HB3.out.trans (hb4.mono HB3.out.size))
  have HO4 := Lib.hid (HO3.out.on hb4)
  clear hb4 HO3 HB3 HZ
  have c2 := fun o' => (rd_cells (alloc_old (o := o') ((HB4.out.block _ (blk_lt HG2.out)).trans HG2.out))).2.2.1

  generalize hz : bs zeroC = z at *
  generalize hfx : bs (fillC xs) = fx at *
  go_wp2_with fail
  all_goals
    refine (HC.out _).mono ?_
    rintro e w5 ⟨rfl, hb5⟩
    have hx5 : w5.heap[w4.heap.size]? = some (.cells #[.int .i64 g, .int .i64 j, .string z, .string ⟨#[]⟩, .bool false] 110 (0, 0)) := (hb5.block _ (by simp)).trans (alloc_at w4 _)
    have hBx := below_step (below_alloc w4 (.cells #[.int .i64 g, .int .i64 j, .string z, .string ⟨#[]⟩, .bool false] 110)) hb5
    have x0 : w5.cell? ⟨w4.heap.size, 0, none⟩ = _ := cell_of hx5 rfl
    have x1 : w5.cell? ⟨w4.heap.size, 1, none⟩ = _ := cell_of hx5 rfl
    have x2 : w5.cell? ⟨w4.heap.size, 2, none⟩ = _ := cell_of hx5 rfl
    have x3 : w5.cell? ⟨w4.heap.size, 3, none⟩ = _ := cell_of hx5 rfl
    have x4 : w5.cell? ⟨w4.heap.size, 4, none⟩ = _ := cell_of hx5 rfl
    have y3 : w5.frozen? ⟨w4.heap.size, 3, none⟩ = false := frozen_of hx5
    have y4 : w5.frozen? ⟨w4.heap.size, 4, none⟩ = false := frozen_of hx5
    have hXn : v1.ownBlock ≠ some w4.heap.size := HO4.out.lt (Nat.le_refl _)
    have hXs := HB4.out.size
    have HO6 : Hid (OwnS ((w5.setCell ⟨w4.heap.size, 3, none⟩ (.string fx)).setCell ⟨w4.heap.size, 4, none⟩ (.bool true)) w2.heap.size v1 ([] ++ [])) := ((HO4.out.on hBx).set hXn _).set hXn _
    have HB6 : Hid (Below w2.heap.size w2 ((w5.setCell ⟨w4.heap.size, 3, none⟩ (.string fx)).setCell ⟨w4.heap.size, 4, none⟩ (.bool true))) := below_set (below_set (HB4.out.trans (hBx.mono hXs)) hXs _) hXs _
    have HN6 : Hid (∀ o', (((w5.setCell ⟨w4.heap.size, 3, none⟩ (.string fx)).setCell ⟨w4.heap.size, 4, none⟩ (.bool true)).alloc o').heap[w5.heap.size]? = some o') := fun o' => by
      have := alloc_at ((w5.setCell ⟨w4.heap.size, 3, none⟩ (.string fx)).setCell ⟨w4.heap.size, 4, none⟩ (.bool true)) o'
      simpa using this
    clear hb5 hBx hx5 hXn HB4 HO4 HC c2
    have HT : Hid (w2.heap.size ≤ w4.heap.size) := hXs
    clear hXs
    cases ar
    · skip
      go_wp2_with (first
        | (at_builtin; subst hfx; subst hz; refine wpList_append_secs w2.heap.size _ w2 rfl _ _ rfl v1 ([] ++ []) [⟨(g, j), zeroC, fillC xs, true⟩] rfl (HO6.out.on (below_alloc _ _)) (some ⟨w5.heap.size, 0, none⟩) 1 1 rfl rfl (fun hh => by cases hh) (sec_five (HN6.out _)) (by simp) (Nat.le_refl _) (HB6.out.alloc HB6.out.size _) ?_
           intro v2 w7 hown2 hb7 _
           have HO7 := Lib.hid hown2
           have HB7 := Lib.hid hb7
           clear hown2 hb7 x0 x1 x2 x3 x4 y3 y4 HO6 HB6)
        | (at_builtin; refine wpList_append_secs w2.heap.size _ w2 rfl _ _ rfl v2 (([] ++ []) ++ [⟨(g, j), zeroC, fillC xs, true⟩]) [] rfl HO7.out none 0 0 rfl rfl (fun _ => rfl) (secsIn_nil _ _) (by simp) (Nat.le_refl _) HB7.out ?_
           intro v3 w8 hown3 hb8 _
           have hown4 : OwnS w8 w2.heap.size v3 (putR [] (g, j) (fillC xs)) := by simpa [putR] using hown3
           obtain ⟨a3, cc3, rfl, hlst⟩ := hown4.lst
           have HLs := Lib.hid hlst
           have hg8 := (hb8.block _ (blk_lt HG2.out)).trans HG2.out
           have hg8' := (hb8.block _ (blk_lt HG2'.out)).trans HG2'.out
           have HG8' := Lib.hid hg8'
           have HG8 := Lib.hid hg8
           have HB8 := Lib.hid (below_step HB2.out hb8)
           obtain ⟨c0, c1, c2, c3, c4, c5⟩ := rd_cells hg8
           obtain ⟨d0, d1, d2, d3, d4, d5⟩ := rd_cells hg8'
           have e2 : w8.frozen? ⟨w.heap.size, 2, none⟩ = false := frozen_of hg8
           have e3 : w8.frozen? ⟨w.heap.size, 3, none⟩ = false := frozen_of hg8
           have e5 : w8.frozen? ⟨w.heap.size, 5, none⟩ = false := frozen_of hg8
           have f0 : w8.frozen? ⟨w.heap.size + 1, 0, none⟩ = false := frozen_of hg8'
           have f1 : w8.frozen? ⟨w.heap.size + 1, 1, none⟩ = false := frozen_of hg8'
           have f2 : w8.frozen? ⟨w.heap.size + 1, 2, none⟩ = false := frozen_of hg8'
           have f3 : w8.frozen? ⟨w.heap.size + 1, 3, none⟩ = false := frozen_of hg8'
           have f4 : w8.frozen? ⟨w.heap.size + 1, 4, none⟩ = false := frozen_of hg8'
           have f5 : w8.frozen? ⟨w.heap.size + 1, 5, none⟩ = false := frozen_of hg8'
           clear hown3 hown4 hlst hb8 hg8 hg8' HO7 HB7)
        | fail)
      have hfin := wrote_fin (k := 5) HB8.out (Nat.le_refl _) (Nat.le_succ _) (by omega) HG8.out HG8'.out HLs.out
      exact bodyPost_ret (results_rd rfl _ _ (w.heap.size + 1) _ _ rfl rfl (hfin _ _ _ _ _ _ _ _).1 rfl) rfl ⟨⟨a3, cc3, by simp, (hfin _ _ _ _ _ _ _ _).2.1⟩, (hfin _ _ _ _ _ _ _ _).2.2⟩
    · by_cases h0 : lf = 0
      · subst h0
        go_wp2_with (first
          | (at_builtin; subst hfx; subst hz; refine wpList_append_secs w2.heap.size _ w2 rfl _ _ rfl v1 ([] ++ []) [⟨(g, j), zeroC, fillC xs, true⟩] rfl (HO6.out.on (below_alloc _ _)) (some ⟨w5.heap.size, 0, none⟩) 1 1 rfl rfl (fun hh => by cases hh) (sec_five (HN6.out _)) (by simp) (Nat.le_refl _) (HB6.out.alloc HB6.out.size _) ?_
             intro v2 w7 hown2 hb7 _
             have HO7 := Lib.hid hown2
             have HB7 := Lib.hid hb7
             clear hown2 hb7 x0 x1 x2 x3 x4 y3 y4 HO6 HB6)
          | (at_builtin; refine wpList_append_secs w2.heap.size _ w2 rfl _ _ rfl v2 (([] ++ []) ++ [⟨(g, j), zeroC, fillC xs, true⟩]) [] rfl HO7.out none 0 0 rfl rfl (fun _ => rfl) (secsIn_nil _ _) (by simp) (Nat.le_refl _) HB7.out ?_
             intro v3 w8 hown3 hb8 _
             have hown4 : OwnS w8 w2.heap.size v3 (putR [] (g, j) (fillC xs)) := by simpa [putR] using hown3
             obtain ⟨a3, cc3, rfl, hlst⟩ := hown4.lst
             have HLs := Lib.hid hlst
             have hg8 := (hb8.block _ (blk_lt HG2.out)).trans HG2.out
             have hg8' := (hb8.block _ (blk_lt HG2'.out)).trans HG2'.out
             have HG8' := Lib.hid hg8'
             have HG8 := Lib.hid hg8
             have HB8 := Lib.hid (below_step HB2.out hb8)
             obtain ⟨c0, c1, c2, c3, c4, c5⟩ := rd_cells hg8
             obtain ⟨d0, d1, d2, d3, d4, d5⟩ := rd_cells hg8'
             have e2 : w8.frozen? ⟨w.heap.size, 2, none⟩ = false := frozen_of hg8
             have e3 : w8.frozen? ⟨w.heap.size, 3, none⟩ = false := frozen_of hg8
             have e5 : w8.frozen? ⟨w.heap.size, 5, none⟩ = false := frozen_of hg8
             have f0 : w8.frozen? ⟨w.heap.size + 1, 0, none⟩ = false := frozen_of hg8'
             have f1 : w8.frozen? ⟨w.heap.size + 1, 1, none⟩ = false := frozen_of hg8'
             have f2 : w8.frozen? ⟨w.heap.size + 1, 2, none⟩ = false := frozen_of hg8'
             have f3 : w8.frozen? ⟨w.heap.size + 1, 3, none⟩ = false := frozen_of hg8'
             have f4 : w8.frozen? ⟨w.heap.size + 1, 4, none⟩ = false := frozen_of hg8'
             have f5 : w8.frozen? ⟨w.heap.size + 1, 5, none⟩ = false := frozen_of hg8'
             clear hown3 hown4 hlst hb8 hg8 hg8' HO7 HB7)
          | fail)
        have hfin := wrote_fin (k := 3) HB8.out (Nat.le_refl _) (Nat.le_succ _) (by omega) HG8.out HG8'.out HLs.out
        exact bodyPost_ret (results_rd rfl _ _ (w.heap.size + 1) _ _ rfl rfl (hfin _ _ _ _ _ _ _ _).1 rfl) rfl ⟨⟨a3, cc3, by simp, (hfin _ _ _ _ _ _ _ _).2.1⟩, (hfin _ _ _ _ _ _ _ _).2.2⟩
      · have k0 : (lf == 0) = false := by simpa using h0
        go_wp2_with (first
          | (at_builtin; subst hfx; subst hz; refine wpList_append_secs w2.heap.size _ w2 rfl _ _ rfl v1 ([] ++ []) [⟨(g, j), zeroC, fillC xs, true⟩] rfl (HO6.out.on (below_alloc _ _)) (some ⟨w5.heap.size, 0, none⟩) 1 1 rfl rfl (fun hh => by cases hh) (sec_five (HN6.out _)) (by simp) (Nat.le_refl _) (HB6.out.alloc HB6.out.size _) ?_
             intro v2 w7 hown2 hb7 _
             have HO7 := Lib.hid hown2
             have HB7 := Lib.hid hb7
             clear hown2 hb7 x0 x1 x2 x3 x4 y3 y4 HO6 HB6)
          | (at_builtin; refine wpList_append_secs w2.heap.size _ w2 rfl _ _ rfl v2 (([] ++ []) ++ [⟨(g, j), zeroC, fillC xs, true⟩]) [] rfl HO7.out none 0 0 rfl rfl (fun _ => rfl) (secsIn_nil _ _) (by simp) (Nat.le_refl _) HB7.out ?_
             intro v3 w8 hown3 hb8 _
             have hown4 : OwnS w8 w2.heap.size v3 (putR [] (g, j) (fillC xs)) := by simpa [putR] using hown3
             obtain ⟨a3, cc3, rfl, hlst⟩ := hown4.lst
             have HLs := Lib.hid hlst
             have hg8 := (hb8.block _ (blk_lt HG2.out)).trans HG2.out
             have hg8' := (hb8.block _ (blk_lt HG2'.out)).trans HG2'.out
             have HG8' := Lib.hid hg8'
             have HG8 := Lib.hid hg8
             have HB8 := Lib.hid (below_step HB2.out hb8)
             obtain ⟨c0, c1, c2, c3, c4, c5⟩ := rd_cells hg8
             obtain ⟨d0, d1, d2, d3, d4, d5⟩ := rd_cells hg8'
             have e2 : w8.frozen? ⟨w.heap.size, 2, none⟩ = false := frozen_of hg8
             have e3 : w8.frozen? ⟨w.heap.size, 3, none⟩ = false := frozen_of hg8
             have e5 : w8.frozen? ⟨w.heap.size, 5, none⟩ = false := frozen_of hg8
             have f0 : w8.frozen? ⟨w.heap.size + 1, 0, none⟩ = false := frozen_of hg8'
             have f1 : w8.frozen? ⟨w.heap.size + 1, 1, none⟩ = false := frozen_of hg8'
             have f2 : w8.frozen? ⟨w.heap.size + 1, 2, none⟩ = false := frozen_of hg8'
             have f3 : w8.frozen? ⟨w.heap.size + 1, 3, none⟩ = false := frozen_of hg8'
             have f4 : w8.frozen? ⟨w.heap.size + 1, 4, none⟩ = false := frozen_of hg8'
             have f5 : w8.frozen? ⟨w.heap.size + 1, 5, none⟩ = false := frozen_of hg8'
             clear hown3 hown4 hlst hb8 hg8 hg8' HO7 HB7)
          | fail)
        have hfin := wrote_fin (k := 5) HB8.out (Nat.le_refl _) (Nat.le_succ _) (by omega) HG8.out HG8'.out HLs.out
        exact bodyPost_ret (results_rd rfl _ _ (w.heap.size + 1) _ _ rfl rfl (hfin _ _ _ _ _ _ _ _).1 rfl) rfl ⟨⟨a3, cc3, by simp [h0], (hfin _ _ _ _ _ _ _ _).2.1⟩, (hfin _ _ _ _ _ _ _ _).2.2⟩
end Go.Proofs.YtjnhcanohefjiaaGreatDoor
