/- The walks of the document's Sync and Pending, and of the law's ints; The walk of the document's Sync; The walk of the document's Restart; The document's Write, whatever comes; The document's Sync, Restart and Pending, whatever comes. -/
import Derived.Test.YtjnhcanohefjiaaGreatDoorJRD
import Derived.Test.YtjnhcanohefjiaaGreatDoorRWrite
namespace Go.Proofs.YtjnhcanohefjiaaGreatDoor
open Go.RowKit Go.Sort Go.Maps

/-- A row of numbers that the call has made. -/
def OwnZ (w : World) (base : Nat) (v : Value) (zs : List Int) : Prop := w.ownsRow base 3 1 v zs.length (zs.map (Value.int .i64))
theorem infoI : (Tryz.prog.info? 3).map (fun i => (i.zero, i.size, i.bytes)) = some (some (.int .i64 0), 1, 8) := by kernel_rfl
theorem OwnZ.on {w w' : World} {base : Nat} {v : Value} {l : List Int} (h : OwnZ w base v l) (hb : Below w.heap.size w w') : OwnZ w' base v l := by
  refine ⟨h.1, ?_⟩
  rcases h.2 with h1 | ⟨g, cap, cur, e, h1, h2, h3, h4, h5, h6⟩
  · exact .inl h1
  · exact .inr ⟨g, cap, cur, e, h1, (hb.block g (blk_lt h2)).trans h2, h3, h4, h5, h6⟩
theorem OwnZ.kept {w w' : World} {base : Nat} {v : Value} {l : List Int} {row : Option Nat} (h : OwnZ w base v l) (hg : w.grownBy w' row) (hr : ∀ k, row = some k → k < base) : OwnZ w' base v l := by
  refine ⟨h.1, ?_⟩
  rcases h.2 with h1 | ⟨g, cap, cur, e, h1, h2, h3, h4, h5, h6⟩
  · exact .inl h1
  · exact .inr ⟨g, cap, cur, e, h1, (hg.block g (blk_lt h2) (fun e => by have := hr g e.symm; omega)).trans h2, h3, h4, h5, h6⟩
theorem OwnZ.ints {w : World} {base : Nat} {v : Value} {zs : List Int} (h : OwnZ w base v zs) : ∃ a c, v = .slice a zs.length c ∧ IntsIn w a zs := by
  rcases h.2 with ⟨rfl, e⟩ | ⟨g, cap, cur, rfl, _, hg, h3, h4, _, ht⟩
  · have : zs = [] := List.eq_nil_of_length_eq_zero e
    subst this
    exact ⟨none, 0, rfl, intsIn_nil _ _⟩
  · refine ⟨_, _, rfl, fun i hi => ⟨g, 0, rfl, ?_⟩⟩
    have e : (zs.map (Value.int .i64))[i]? = some (.int .i64 zs[i]) := by simp [hi]
    rw [← ht, List.getElem?_take_of_lt (by omega), Array.getElem?_toList] at e
    rw [Nat.zero_add]
    exact cell_of hg e
end Go.Proofs.YtjnhcanohefjiaaGreatDoor

namespace Go.Proofs.YtjnhcanohefjiaaGreatDoor
open Go.RowKit Go.Sort Go.Maps

/-- A device is changed in its own block, and stored whole in another. -/
theorem fin_rd {w w8 V : World} {N B0 B1 : Nat} {q : Array Value} {y0 y1 y2 y3 y4 y5 : Value} {a : Option Addr} {cc : Nat} {l : List RS} (hB : Below N w V) (h1 : N ≤ B1) (hne : B1 ≠ B0) (hfar : ∀ k, k ≠ B0 → V.heap[k]? = w8.heap[k]?) (hg0 : w8.heap[B0]? = some (.cells q 33 (0, 0))) (hg1 : w8.heap[B1]? = some (.cells #[y0, y1, y2, y3, y4, y5] 33 (0, 0))) (hl : LstS w8 a cc l) (v0 v1 v2 v3 v4 v5 : Value) :
    (((((((V.setCell ⟨B1, 0, none⟩ v0).setCell ⟨B1, 1, none⟩ v1).setCell ⟨B1, 2, none⟩ v2).setCell ⟨B1, 3, none⟩ v3).setCell ⟨B1, 4, none⟩ v4).setCell ⟨B1, 5, none⟩ v5).heap[B1]? = some (.cells #[v0, v1, v2, v3, v4, v5] 33 (0, 0)))
    ∧ LstS ((((((V.setCell ⟨B1, 0, none⟩ v0).setCell ⟨B1, 1, none⟩ v1).setCell ⟨B1, 2, none⟩ v2).setCell ⟨B1, 3, none⟩ v3).setCell ⟨B1, 4, none⟩ v4).setCell ⟨B1, 5, none⟩ v5) a cc l
    ∧ Below N w ((((((V.setCell ⟨B1, 0, none⟩ v0).setCell ⟨B1, 1, none⟩ v1).setCell ⟨B1, 2, none⟩ v2).setCell ⟨B1, 3, none⟩ v3).setCell ⟨B1, 4, none⟩ v4).setCell ⟨B1, 5, none⟩ v5) := by
  refine ⟨six_heap ((hfar _ hne).trans hg1) _ _ _ _ _ _, hl.stay fun k' cs z hk => ?_, six_below hB h1 _ _ _ _ _ _⟩
  have k0 : k' ≠ B0 := fun e => by rw [e, hg0] at hk; simp only [Option.some.injEq, Obj.cells.injEq] at hk; exact absurd hk.2.1 (by decide)
  have k1 : k' ≠ B1 := fun e => by rw [e, hg1] at hk; simp only [Option.some.injEq, Obj.cells.injEq] at hk; exact absurd hk.2.1 (by decide)
  rw [six_far _ k1, hfar _ k0]
theorem syncR_take {g : Int} {l : List RS} {i : Nat} (h : i < l.length) : syncR g (l.take (i + 1)) = syncR g (l.take i) ++ [syncO g l[i]] := by
  unfold syncR
  rw [List.take_succ_eq_append_getElem h, List.map_append]; rfl
set_option maxRecDepth 100000 in
set_option maxHeartbeats 4000000 in
theorem rsync_no1 (r s lf : Int) (cr ar : Bool) (a : Option Addr) (L c : Nat) (g : Int) (w : World) (hb : hasR r s (g, 0) = false) :
    Calls Tryz.prog 60 #[.agg #[.int .i64 r, .int .i64 s, .slice a L c, .bool cr, .bool ar, .int .i64 lf], .int .i64 g] w fun e w' => e = .returned (.tuple #[.agg #[.int .i64 r, .int .i64 s, .slice a L c, .bool cr, .bool ar, .int .i64 lf], .int .i64 1]) ∧ Below w.heap.size w w' := by
  have HH : Hid (∀ V : World, Calls Tryz.prog 55 #[.agg #[.int .i64 r, .int .i64 s, .slice a L c, .bool cr, .bool ar, .int .i64 lf], .int .i64 g, .int .i64 0] V fun e w' => e = .returned (.bool (hasR r s (g, 0))) ∧ Below V.heap.size V w') := fun V => rhas_ r s lf _ cr ar g 0 V
  obtain ⟨W, hW⟩ : ∃ W, W = (w.alloc (.cells #[.int .i64 r, .int .i64 s, .slice a L c, .bool cr, .bool ar, .int .i64 lf] 33)).alloc (.cells #[.int .i64 0, .int .i64 0, .slice none 0 0, .bool false, .bool false, .int .i64 0] 33) := ⟨_, rfl⟩
  have HB : Hid (Below w.heap.size w W) := by rw [hW]; exact below_two w _ _
  have HG : Hid (W.heap[w.heap.size]? = some (.cells #[.int .i64 r, .int .i64 s, .slice a L c, .bool cr, .bool ar, .int .i64 lf] 33 (0, 0))) := by rw [hW]; exact (heap_two w _ _).2
  have HG' : Hid (W.heap[w.heap.size + 1]? = some (.cells #[.int .i64 0, .int .i64 0, .slice none 0 0, .bool false, .bool false, .int .i64 0] 33 (0, 0))) := by rw [hW]; exact (heap_two w _ _).1
  have HW := Lib.hid hW
  clear hW
  rw [hb] at HH

  go_enter Tryz.func60, Tryz.ntmps60
  go_wp2_with fail
  rw [← HW.out]
  clear HW
  refine (HH.out W).mono ?_
  rintro e w1 ⟨rfl, hb1⟩
  have HB1 := Lib.hid (below_step HB.out hb1)
  have HG1 := Lib.hid ((hb1.block _ (blk_lt HG.out)).trans HG.out)
  have HG1' := Lib.hid ((hb1.block _ (blk_lt HG'.out)).trans HG'.out)
  clear hb1 HB HG HG' HH
  obtain ⟨c0, c1, c2, c3, c4, c5⟩ := rd_cells HG1.out

  obtain ⟨d0, d1, d2, d3, d4, d5⟩ := rd_cells HG1'.out
  have F1 := Lib.hid (fun o => frozen_of (o := o) HG1'.out)
  have f0 := F1.out 0
  have f1 := F1.out 1
  have f2 := F1.out 2
  have f3 := F1.out 3
  have f4 := F1.out 4
  have f5 := F1.out 5
  go_wp2_with fail

  exact bodyPost_ret (results_rd rfl _ _ (w.heap.size + 1) _ _ rfl rfl (six_heap HG1'.out _ _ _ _ _ _) rfl) rfl ⟨rfl, six_below HB1.out (by omega) _ _ _ _ _ _⟩
set_option maxRecDepth 100000 in
set_option maxHeartbeats 4000000 in
theorem rsync_no3 (r s lf : Int) (ar : Bool) (a : Option Addr) (L c : Nat) (g : Int) (w : World) (hb : hasR r s (g, 0) = true) :
    Calls Tryz.prog 60 #[.agg #[.int .i64 r, .int .i64 s, .slice a L c, .bool true, .bool ar, .int .i64 lf], .int .i64 g] w fun e w' => e = .returned (.tuple #[.agg #[.int .i64 r, .int .i64 s, .slice a L c, .bool true, .bool ar, .int .i64 lf], .int .i64 60]) ∧ Below w.heap.size w w' := by
  have HH : Hid (∀ V : World, Calls Tryz.prog 55 #[.agg #[.int .i64 r, .int .i64 s, .slice a L c, .bool true, .bool ar, .int .i64 lf], .int .i64 g, .int .i64 0] V fun e w' => e = .returned (.bool (hasR r s (g, 0))) ∧ Below V.heap.size V w') := fun V => rhas_ r s lf _ true ar g 0 V
  obtain ⟨W, hW⟩ : ∃ W, W = (w.alloc (.cells #[.int .i64 r, .int .i64 s, .slice a L c, .bool true, .bool ar, .int .i64 lf] 33)).alloc (.cells #[.int .i64 0, .int .i64 0, .slice none 0 0, .bool false, .bool false, .int .i64 0] 33) := ⟨_, rfl⟩
  have HB : Hid (Below w.heap.size w W) := by rw [hW]; exact below_two w _ _
  have HG : Hid (W.heap[w.heap.size]? = some (.cells #[.int .i64 r, .int .i64 s, .slice a L c, .bool true, .bool ar, .int .i64 lf] 33 (0, 0))) := by rw [hW]; exact (heap_two w _ _).2
  have HG' : Hid (W.heap[w.heap.size + 1]? = some (.cells #[.int .i64 0, .int .i64 0, .slice none 0 0, .bool false, .bool false, .int .i64 0] 33 (0, 0))) := by rw [hW]; exact (heap_two w _ _).1
  have HW := Lib.hid hW
  clear hW
  rw [hb] at HH

  go_enter Tryz.func60, Tryz.ntmps60
  go_wp2_with fail
  rw [← HW.out]
  clear HW
  refine (HH.out W).mono ?_
  rintro e w1 ⟨rfl, hb1⟩
  have HB1 := Lib.hid (below_step HB.out hb1)
  have HG1 := Lib.hid ((hb1.block _ (blk_lt HG.out)).trans HG.out)
  have HG1' := Lib.hid ((hb1.block _ (blk_lt HG'.out)).trans HG'.out)
  clear hb1 HB HG HG' HH
  obtain ⟨c0, c1, c2, c3, c4, c5⟩ := rd_cells HG1.out

  obtain ⟨d0, d1, d2, d3, d4, d5⟩ := rd_cells HG1'.out
  have F1 := Lib.hid (fun o => frozen_of (o := o) HG1'.out)
  have f0 := F1.out 0
  have f1 := F1.out 1
  have f2 := F1.out 2
  have f3 := F1.out 3
  have f4 := F1.out 4
  have f5 := F1.out 5
  go_wp2_with fail

  exact bodyPost_ret (results_rd rfl _ _ (w.heap.size + 1) _ _ rfl rfl (six_heap HG1'.out _ _ _ _ _ _) rfl) rfl ⟨rfl, six_below HB1.out (by omega) _ _ _ _ _ _⟩
set_option maxRecDepth 100000 in
set_option maxHeartbeats 4000000 in
theorem rsync_ok (r s lf : Int) (ar : Bool) (a : Option Addr) (L c : Nat) (l : List RS) (g : Int) (w : World) (hb : hasR r s (g, 0) = true) (hL : L = l.length) (h : SecsIn w a l) (hl : L ≤ 1000) :
    Calls Tryz.prog 60 #[.agg #[.int .i64 r, .int .i64 s, .slice a L c, .bool false, .bool ar, .int .i64 lf], .int .i64 g] w fun e w' => (∃ a' c', e = .returned (.tuple #[.agg #[.int .i64 r, .int .i64 s, .slice a' (syncR g l).length c', .bool false, .bool ar, .int .i64 lf], .int .i64 0]) ∧ LstS w' a' c' (syncR g l)) ∧ Below w.heap.size w w' := by
  have HH : Hid (∀ V : World, Calls Tryz.prog 55 #[.agg #[.int .i64 r, .int .i64 s, .slice a L c, .bool false, .bool ar, .int .i64 lf], .int .i64 g, .int .i64 0] V fun e w' => e = .returned (.bool (hasR r s (g, 0))) ∧ Below V.heap.size V w') := fun V => rhas_ r s lf _ false ar g 0 V
  obtain ⟨W, hW⟩ : ∃ W, W = (w.alloc (.cells #[.int .i64 r, .int .i64 s, .slice a L c, .bool false, .bool ar, .int .i64 lf] 33)).alloc (.cells #[.int .i64 0, .int .i64 0, .slice none 0 0, .bool false, .bool false, .int .i64 0] 33) := ⟨_, rfl⟩
  have HB : Hid (Below w.heap.size w W) := by rw [hW]; exact below_two w _ _
  have HG : Hid (W.heap[w.heap.size]? = some (.cells #[.int .i64 r, .int .i64 s, .slice a L c, .bool false, .bool ar, .int .i64 lf] 33 (0, 0))) := by rw [hW]; exact (heap_two w _ _).2
  have HG' : Hid (W.heap[w.heap.size + 1]? = some (.cells #[.int .i64 0, .int .i64 0, .slice none 0 0, .bool false, .bool false, .int .i64 0] 33 (0, 0))) := by rw [hW]; exact (heap_two w _ _).1
  have HW := Lib.hid hW
  clear hW

  rw [hb] at HH
  have HI := Lib.hid h
  have HL := Lib.hid hL
  clear hb h hL

  go_enter Tryz.func60, Tryz.ntmps60
  go_wp2_with fail
  rw [← HW.out]
  clear HW
  refine (HH.out W).mono ?_
  rintro e w1 ⟨rfl, hb1⟩
  have HB1 := Lib.hid (below_step HB.out hb1)
  have HG1 := Lib.hid ((hb1.block _ (blk_lt HG.out)).trans HG.out)
  have HG1' := Lib.hid ((hb1.block _ (blk_lt HG'.out)).trans HG'.out)
  clear hb1 HB HG HG' HH
  obtain ⟨c0, c1, c2, c3, c4, c5⟩ := rd_cells HG1.out

  have HI1 := Lib.hid (HI.out.on HB1.out)
  clear HI
  go_wp2_with fail
  clear c0 c1 c2 c3 c4 c5
  go_loopw [6, 7, 8] (fun sv iv _ wr => ∃ (ov : Value) (i : Nat), ov = sv ∧ i ≤ L ∧ iv = .int .i64 i ∧ Hid (OwnS wr w1.heap.size ov (syncR g (l.take i))) ∧ Hid (Below w1.heap.size w1 wr)) (fun _ iv _ _ => L - (intOf iv).toNat)
  case atStart => exact ⟨_, 0, rfl, Nat.zero_le _, rfl, ownS_nil _ _, Below.refl _ _⟩
  case round =>
    obtain ⟨ov, i, rfl, hi, rfl, HO, HBr⟩ := hrel
    have hgr := (HBr.out.block _ (blk_lt HG1.out)).trans HG1.out
    have hsz := HBr.out.size
    by_cases hlt : i < L
    · have hlt2 : (i : Int) < (L : Int) := by omega
      have hi2 : i < l.length := by rw [← HL.out]; exact hlt
      obtain ⟨_, _, c2, _, _, _⟩ := rd_cells hgr
      obtain ⟨b, o, rfl, hs⟩ := (HI1.out.on HBr.out) i hi2
      obtain ⟨q0, q1, q2, q3, q4⟩ := hs.cells
      have HT := Lib.hid (syncR_take (g := g) hi2)
      clear hs hgr
      generalize l[i] = x at *
      obtain ⟨⟨x1, x2⟩, sa, no, pe⟩ := x
      simp only at q0 q1 q2 q3 q4
      by_cases h1 : x1 = g
      · have k1 : (x1 == g) = true := by simpa using h1
        cases pe
        · skip
          have HX : Hid (syncR g (l.take (i + 1)) = syncR g (l.take i) ++ [⟨(x1, x2), sa, no, false⟩]) := by
            show _ = _
            rw [HT.out]; congr 2; unfold syncO; simp 
          clear HT h1
          go_wp2_with (first
            | (at_builtin; refine wpList_append_secs w1.heap.size _ w1 rfl _ _ rfl ov (syncR g (l.take i)) [⟨(x1, x2), sa, no, false⟩] rfl (HO.out.on (below_two wr _ _)) (some ⟨wr.heap.size + 1, 0, none⟩) 1 1 rfl rfl (fun hh => by cases hh) (sec_five (heap_two wr _ _).1) (by rw [length_syncR, List.length_take]; simp; omega) (Nat.le_refl _) (HBr.out.trans ((below_two wr _ _).mono hsz)) ?_
               intro v1 w3 hown1 hb3 _
               have HO1 : Hid (OwnS w3 w1.heap.size v1 (syncR g (l.take (i + 1)))) := by rw [HX.out]; exact hown1
               have HB3 := Lib.hid hb3
               clear hown1 hb3)
            | fail)
          go_roundw
          case rel => exact ⟨_, i + 1, rfl, by omega, by go_num, HO1, HB3⟩
          case measure => simp [intOf]; omega

        · skip
          have HX : Hid (syncR g (l.take (i + 1)) = syncR g (l.take i) ++ [⟨(x1, x2), no, no, false⟩]) := by
            show _ = _
            rw [HT.out]; congr 2; unfold syncO; simp [h1]
          clear HT h1
          go_wp2_with (first
            | (at_builtin; refine wpList_append_secs w1.heap.size _ w1 rfl _ _ rfl ov (syncR g (l.take i)) [⟨(x1, x2), no, no, false⟩] rfl (HO.out.on (below_two wr _ _)) (some ⟨wr.heap.size + 1, 0, none⟩) 1 1 rfl rfl (fun hh => by cases hh) (sec_five (heap_two wr _ _).1) (by rw [length_syncR, List.length_take]; simp; omega) (Nat.le_refl _) (HBr.out.trans ((below_two wr _ _).mono hsz)) ?_
               intro v1 w3 hown1 hb3 _
               have HO1 : Hid (OwnS w3 w1.heap.size v1 (syncR g (l.take (i + 1)))) := by rw [HX.out]; exact hown1
               have HB3 := Lib.hid hb3
               clear hown1 hb3)
            | fail)
          go_roundw
          case rel => exact ⟨_, i + 1, rfl, by omega, by go_num, HO1, HB3⟩
          case measure => simp [intOf]; omega

      · have k1 : (x1 == g) = false := by simpa using h1
        have HX : Hid (syncR g (l.take (i + 1)) = syncR g (l.take i) ++ [⟨(x1, x2), sa, no, pe⟩]) := by
          show _ = _
          rw [HT.out]; congr 2; unfold syncO; simp [h1]
        clear HT h1
        go_wp2_with (first
          | (at_builtin; refine wpList_append_secs w1.heap.size _ w1 rfl _ _ rfl ov (syncR g (l.take i)) [⟨(x1, x2), sa, no, pe⟩] rfl (HO.out.on (below_two wr _ _)) (some ⟨wr.heap.size + 1, 0, none⟩) 1 1 rfl rfl (fun hh => by cases hh) (sec_five (heap_two wr _ _).1) (by rw [length_syncR, List.length_take]; simp; omega) (Nat.le_refl _) (HBr.out.trans ((below_two wr _ _).mono hsz)) ?_
             intro v1 w3 hown1 hb3 _
             have HO1 : Hid (OwnS w3 w1.heap.size v1 (syncR g (l.take (i + 1)))) := by rw [HX.out]; exact hown1
             have HB3 := Lib.hid hb3
             clear hown1 hb3)
          | fail)
        go_roundw
        case rel => exact ⟨_, i + 1, rfl, by omega, by go_num, HO1, HB3⟩
        case measure => simp [intOf]; omega

    · obtain rfl : i = L := by omega
      have hO := HO.out
      rw [List.take_of_length_le (by rw [HL.out]; exact Nat.le_refl _)] at hO
      obtain ⟨a3, cc3, rfl, hlst⟩ := hO.lst
      have HLs := Lib.hid hlst
      have HG8 := Lib.hid hgr
      have hgr' := (HBr.out.block _ (blk_lt HG1'.out)).trans HG1'.out
      have HG8' := Lib.hid hgr'
      have HB8 := Lib.hid (below_step HB1.out HBr.out)
      obtain ⟨c0, c1, c2, c3, c4, c5⟩ := rd_cells hgr
      obtain ⟨d0, d1, d2, d3, d4, d5⟩ := rd_cells hgr'
      have e2 : wr.frozen? ⟨w.heap.size, 2, none⟩ = false := frozen_of hgr
      have f0 : wr.frozen? ⟨w.heap.size + 1, 0, none⟩ = false := frozen_of hgr'
      have f1 : wr.frozen? ⟨w.heap.size + 1, 1, none⟩ = false := frozen_of hgr'
      have f2 : wr.frozen? ⟨w.heap.size + 1, 2, none⟩ = false := frozen_of hgr'
      have f3 : wr.frozen? ⟨w.heap.size + 1, 3, none⟩ = false := frozen_of hgr'
      have f4 : wr.frozen? ⟨w.heap.size + 1, 4, none⟩ = false := frozen_of hgr'
      have f5 : wr.frozen? ⟨w.heap.size + 1, 5, none⟩ = false := frozen_of hgr'
      clear hO HO hlst hgr hgr' HBr hsz
      go_wp2_with fail
      have hfin := fin_rd (V := wr.setCell ⟨w.heap.size, 2, none⟩ (.slice a3 (syncR g l).length cc3)) (B0 := w.heap.size) (B1 := w.heap.size + 1) (below_set HB8.out (Nat.le_refl _) _) (Nat.le_succ _) (by omega) (fun k hk => heap_far _ hk) HG8.out HG8'.out HLs.out
      exact bodyPost_ret (results_rd rfl _ _ (w.heap.size + 1) _ _ rfl rfl (hfin _ _ _ _ _ _).1 rfl) rfl ⟨⟨a3, cc3, rfl, (hfin _ _ _ _ _ _).2.1⟩, (hfin _ _ _ _ _ _).2.2⟩
end Go.Proofs.YtjnhcanohefjiaaGreatDoor

namespace Go.Proofs.YtjnhcanohefjiaaGreatDoor
open Go.RowKit Go.Sort Go.Maps

def cntP (l : List RS) : Nat := (l.filter (·.pend)).length
def restO (x : RS) (n : Int) : RS := if x.pend = true then ⟨x.key, chosenC n x.now x.safe, x.now, false⟩ else x
theorem restR_append : ∀ (A B : List RS) (ns : List Int), restR (A ++ B) ns = restR A ns ++ restR B (ns.drop (cntP A))
  | [], B, ns => by simp [restR, cntP]
  | x :: A, B, ns => by
    show restR (x :: (A ++ B)) ns = _
    by_cases hp : x.pend = true
    · have e : ns.tail.drop (cntP A) = ns.drop (cntP (x :: A)) := by simp [cntP, hp, Nat.add_comm]
      simp only [restR, if_pos hp, List.cons_append, restR_append A B, e]
    · have e : cntP (x :: A) = cntP A := by simp [cntP, hp]
      simp only [restR, if_neg hp, List.cons_append, restR_append A B, e]
theorem restR_take {l : List RS} {i : Nat} (ns : List Int) (h : i < l.length) : restR (l.take (i + 1)) ns = restR (l.take i) ns ++ [restO l[i] ((ns.drop (cntP (l.take i))).headD 0)] := by
  rw [List.take_succ_eq_append_getElem h, restR_append]
  congr 1
  unfold restO
  by_cases hp : l[i].pend = true <;> simp [restR, hp]
theorem cntP_take {l : List RS} {i : Nat} (h : i < l.length) : cntP (l.take (i + 1)) = cntP (l.take i) + if l[i].pend = true then 1 else 0 := by
  unfold cntP
  rw [List.take_succ_eq_append_getElem h, List.filter_append, List.length_append]
  by_cases hp : l[i].pend = true <;> simp [hp]
theorem cntP_le (l : List RS) : cntP l ≤ l.length := List.length_filter_le _ _
theorem head_at {ns : List Int} {k : Nat} (h : k < ns.length) : (ns.drop k).headD 0 = ns[k] := by
  rw [List.drop_eq_getElem_cons h]; rfl
theorem head_past {ns : List Int} {k : Nat} (h : ns.length ≤ k) : (ns.drop k).headD 0 = 0 := by
  rw [List.drop_eq_nil_of_le h]; rfl
theorem bs_take (xs : List Nat) (n : Nat) : (bs xs).extract 0 n = bs (xs.take n) := by
  apply ByteArray.ext
  simp [bs, List.map_take]
theorem bs_drop (xs : List Nat) (n : Nat) : (bs xs).extract n (bs xs).size = bs (xs.drop n) := by
  apply ByteArray.ext
  rw [bs_size]
  simp only [bs, List.map_drop, ByteArray.data_extract, List.extract_toArray]
  rw [List.extract_eq_take_drop, List.take_of_length_le (by simp)]
theorem bs_torn (xs ys : List Nat) : (bs xs).extract 0 32 ++ (bs ys).extract 32 (bs ys).size = bs (tornC xs ys) := by
  rw [bs_take, bs_drop, bs_append]; rfl
set_option maxRecDepth 100000 in
set_option maxHeartbeats 8000000 in
theorem rrest0_ (r s lf : Int) (cr ar : Bool) (a : Option Addr) (L c : Nat) (l : List RS) (ca : Option Addr) (ns : List Int) (cn cc : Nat) (w : World) (hL : L = l.length) (h : SecsIn w a l) (hl : L ≤ 1000) (hci : IntsIn w ca ns) (hcn : ns.length = cn) (hok : ∀ y ∈ l, y.safe.length = 64 ∧ y.now.length = 64) :
    Calls Tryz.prog 40 #[.agg #[.int .i64 r, .int .i64 s, .slice a L c, .bool cr, .bool ar, .int .i64 lf], .slice ca cn cc] w fun e w' => (∃ a' c', e = .returned (.agg #[.int .i64 r, .int .i64 s, .slice a' (restR l ns).length c', .bool false, .bool false, .int .i64 lf]) ∧ LstS w' a' c' (restR l ns)) ∧ Below w.heap.size w w' := by
  obtain ⟨W, hW⟩ : ∃ W, W = (w.alloc (.cells #[.int .i64 r, .int .i64 s, .slice a L c, .bool cr, .bool ar, .int .i64 lf] 33)).alloc (.cells #[.int .i64 0, .int .i64 0, .slice none 0 0, .bool false, .bool false, .int .i64 0] 33) := ⟨_, rfl⟩
  have HB1 : Hid (Below w.heap.size w W) := by rw [hW]; exact below_two w _ _
  have HG1 : Hid (W.heap[w.heap.size]? = some (.cells #[.int .i64 r, .int .i64 s, .slice a L c, .bool cr, .bool ar, .int .i64 lf] 33 (0, 0))) := by rw [hW]; exact (heap_two w _ _).2
  have HG1' : Hid (W.heap[w.heap.size + 1]? = some (.cells #[.int .i64 0, .int .i64 0, .slice none 0 0, .bool false, .bool false, .int .i64 0] 33 (0, 0))) := by rw [hW]; exact (heap_two w _ _).1
  have HW := Lib.hid hW
  have HI1 := Lib.hid (h.on HB1.out)
  have HC1 := Lib.hid (hci.on HB1.out)
  have HL := Lib.hid hL
  have HCN := Lib.hid hcn
  have HOK := Lib.hid hok
  clear hW h hci hL hcn hok
  go_enter Tryz.func40, Tryz.ntmps40
  go_wp2_with fail
  rw [← HW.out]
  clear HW
  go_loopw [5, 6, 7, 8, 9] (fun sv kv iv _ _ wr => ∃ (ov : Value) (k i : Nat), ov = sv ∧ i ≤ L ∧ (iv = .int .i64 i ∧ kv = .int .i64 k) ∧ Hid (k = cntP (l.take i)) ∧ Hid (OwnS wr W.heap.size ov (restR (l.take i) ns)) ∧ Hid (Below W.heap.size W wr)) (fun _ _ iv _ _ _ => L - (intOf iv).toNat)
  case atStart => exact ⟨_, 0, 0, rfl, Nat.zero_le _, ⟨rfl, rfl⟩, rfl, ownS_nil _ _, Below.refl _ _⟩
  case round =>
    obtain ⟨ov, k, i, rfl, hi, ⟨rfl, rfl⟩, HK, HO, HBr⟩ := hrel
    have hgr := (HBr.out.block _ (blk_lt HG1.out)).trans HG1.out
    have hsz := HBr.out.size
    by_cases hlt : i < L
    · have hlt2 : (i : Int) < (L : Int) := by omega
      have hi2 : i < l.length := by rw [← HL.out]; exact hlt
      obtain ⟨_, _, c2, _, _, _⟩ := rd_cells hgr
      obtain ⟨b, o, rfl, hs⟩ := (HI1.out.on HBr.out) i hi2
      obtain ⟨q0, q1, q2, q3, q4⟩ := hs.cells
      have hT := restR_take ns hi2
      rw [← HK.out] at hT
      have HT := Lib.hid hT
      have HKt := Lib.hid (cntP_take hi2)
      have hkl : k ≤ 1000 := by have := cntP_le (l.take i); rw [← HK.out, List.length_take] at this; omega
      have H64 := Lib.hid (HOK.out _ (List.getElem_mem hi2))
      clear hs hgr hT
      generalize l[i] = x at *
      obtain ⟨⟨x1, x2⟩, sa, no, pe⟩ := x
      simp only at q0 q1 q2 q3 q4
      have HN64 : Hid ((bs no).size = 64) := by show (bs no).size = 64; rw [bs_size]; exact H64.out.2
      have HS64 : Hid ((bs sa).size = 64) := by show (bs sa).size = 64; rw [bs_size]; exact H64.out.1
      cases pe
      · have HK1 : Hid (k = cntP (l.take (i + 1))) := by show k = _; rw [HKt.out, ← HK.out]; rfl
        have HX : Hid (restR (l.take (i + 1)) ns = restR (l.take i) ns ++ [⟨(x1, x2), sa, no, false⟩]) := by
          show _ = _
          rw [HT.out]; rfl
        clear HT
        go_wp2_with (first
          | (at_builtin; refine wpList_append_secs W.heap.size _ W rfl _ _ rfl ov (restR (l.take i) ns) [⟨(x1, x2), sa, no, false⟩] rfl (HO.out.on (below_two wr _ _)) (some ⟨wr.heap.size + 1, 0, none⟩) 1 1 rfl rfl (fun hh => by cases hh) (sec_five (heap_two wr _ _).1) (by rw [length_restR, List.length_take]; simp; omega) (Nat.le_refl _) (HBr.out.trans ((below_two wr _ _).mono hsz)) ?_
             intro v1 w3 hown1 hb3 _
             have HO1 : Hid (OwnS w3 W.heap.size v1 (restR (l.take (i + 1)) ns)) := by rw [HX.out]; exact hown1
             have HB3 := Lib.hid hb3
             clear hown1 hb3)
          | fail)
        go_roundw
        case rel => exact ⟨_, _, i + 1, rfl, by omega, ⟨by go_num, rfl⟩, HK1, HO1, HB3⟩
        case measure => simp [intOf]; omega

      · have HK1 : Hid (k + 1 = cntP (l.take (i + 1))) := by show k + 1 = _; rw [HKt.out, ← HK.out]; rfl
        by_cases hk : k < cn
        · have hk2 : (k : Int) < (cn : Int) := by omega
          have hkn : k < ns.length := by rw [HCN.out]; exact hk
          obtain ⟨cb, co, rfl, qc⟩ := (HC1.out.on HBr.out) k hkn
          have HQC := Lib.hid (fun o' => ((below_alloc wr o').cell (block_lt_of_cell qc)).trans qc)
          have hhd := head_at hkn
          rw [hhd] at HT
          generalize ns[k] = nv at *
          have qc' := fun o' => HQC.out o'
          clear hhd qc
          by_cases n1 : nv = 1
          · have k1 : (nv == 1) = true := by simpa using n1
            have k2 : (nv == 2) = false := by simp; omega
            have HX : Hid (restR (l.take (i + 1)) ns = restR (l.take i) ns ++ [⟨(x1, x2), no, no, false⟩]) := by
              show _ = _
              rw [HT.out]; simp only [restO]; simp [chosenC, n1]
            clear HT
            clear n1

            go_wp2_with (first
              | (at_builtin; refine wpList_append_secs W.heap.size _ W rfl _ _ rfl ov (restR (l.take i) ns) [⟨(x1, x2), no, no, false⟩] rfl (HO.out.on (below_two wr _ _)) (some ⟨wr.heap.size + 1, 0, none⟩) 1 1 rfl rfl (fun hh => by cases hh) (sec_five (heap_two wr _ _).1) (by rw [length_restR, List.length_take]; simp; omega) (Nat.le_refl _) (HBr.out.trans ((below_two wr _ _).mono hsz)) ?_
                 intro v1 w3 hown1 hb3 _
                 have HO1 : Hid (OwnS w3 W.heap.size v1 (restR (l.take (i + 1)) ns)) := by rw [HX.out]; exact hown1
                 have HB3 := Lib.hid hb3
                 clear hown1 hb3)
              | fail)
            go_roundw
            case rel => exact ⟨_, _, i + 1, rfl, by omega, ⟨by go_num, by go_num⟩, HK1, HO1, HB3⟩
            case measure => simp [intOf]; omega

          · have k1 : (nv == 1) = false := by simpa using n1
            by_cases n2 : nv = 2
            · have k2 : (nv == 2) = true := by simpa using n2
              have HX : Hid (restR (l.take (i + 1)) ns = restR (l.take i) ns ++ [⟨(x1, x2), tornC no sa, no, false⟩]) := by
                show _ = _
                rw [HT.out]; simp only [restO]; simp [chosenC, n2]
              clear HT
              clear n1 n2

              go_wp2_with fail
              obtain ⟨V, hV⟩ : ∃ V, V = wr.alloc (.cells #[.int .i64 x1, .int .i64 x2, .string (bs sa), .string (bs no), .bool true] 110) := ⟨_, rfl⟩
              have hX : V.heap[wr.heap.size]? = some (.cells #[.int .i64 x1, .int .i64 x2, .string (bs sa), .string (bs no), .bool true] 110 (0, 0)) := by rw [hV]; exact alloc_at wr _
              have hBV : Below wr.heap.size wr V := by rw [hV]; exact below_alloc wr _
              rw [← hV]
              have p0 : V.cell? ⟨wr.heap.size, 0, none⟩ = _ := cell_of hX rfl
              have p1 : V.cell? ⟨wr.heap.size, 1, none⟩ = _ := cell_of hX rfl
              have p2 : V.cell? ⟨wr.heap.size, 2, none⟩ = _ := cell_of hX rfl
              have p3 : V.cell? ⟨wr.heap.size, 3, none⟩ = _ := cell_of hX rfl
              have p4 : V.cell? ⟨wr.heap.size, 4, none⟩ = _ := cell_of hX rfl
              have z2 : V.frozen? ⟨wr.heap.size, 2, none⟩ = false := frozen_of hX
              have z4 : V.frozen? ⟨wr.heap.size, 4, none⟩ = false := frozen_of hX
              have HXV := Lib.hid (And.intro hX hBV)
              have hTn := bs_torn no sa
              rw [HS64.out] at hTn
              have HTn := Lib.hid hTn
              clear hTn
              clear hV hX hBV
              have g1 : (bs no).size = 64 := HN64.out
              have g2 : (bs sa).size = 64 := HS64.out
              go_region
              rw [HTn.out]
              have hX2 : ((V.setCell ⟨wr.heap.size, 2, none⟩ (.string (bs (tornC no sa)))).drew).heap[wr.heap.size]? = some (.cells #[.int .i64 x1, .int .i64 x2, .string (bs (tornC no sa)), .string (bs no), .bool true] 110 (0, 0)) := by
                have := heap_set (o := 2) (.string (bs (tornC no sa))) HXV.out.1
                show (V.setCell ⟨wr.heap.size, 2, none⟩ (.string (bs (tornC no sa)))).heap[wr.heap.size]? = _
                simpa using this
              have hB2 : Below wr.heap.size wr ((V.setCell ⟨wr.heap.size, 2, none⟩ (.string (bs (tornC no sa)))).drew) := (below_set HXV.out.2 (Nat.le_refl _) _).drew
              clear p0 p1 p2 p3 p4 z2 z4 HXV HTn
              generalize (V.setCell ⟨wr.heap.size, 2, none⟩ (.string (bs (tornC no sa)))).drew = V2 at *
              have p0 : V2.cell? ⟨wr.heap.size, 0, none⟩ = _ := cell_of hX2 rfl
              have p1 : V2.cell? ⟨wr.heap.size, 1, none⟩ = _ := cell_of hX2 rfl
              have p2 : V2.cell? ⟨wr.heap.size, 2, none⟩ = _ := cell_of hX2 rfl
              have p3 : V2.cell? ⟨wr.heap.size, 3, none⟩ = _ := cell_of hX2 rfl
              have p4 : V2.cell? ⟨wr.heap.size, 4, none⟩ = _ := cell_of hX2 rfl
              have z4 : V2.frozen? ⟨wr.heap.size, 4, none⟩ = false := frozen_of hX2
              have HB2 := Lib.hid (below_set (o := 4) hB2 (Nat.le_refl _) (.bool false))
              have HN2 : Hid (∀ o', ((V2.setCell ⟨wr.heap.size, 4, none⟩ (.bool false)).alloc o').heap[V2.heap.size]? = some o') := fun o' => by
                have := alloc_at (V2.setCell ⟨wr.heap.size, 4, none⟩ (.bool false)) o'
                simpa using this
              clear hX2 hB2
              go_wp2_with (first
                | (at_builtin; refine wpList_append_secs W.heap.size _ W rfl _ _ rfl ov (restR (l.take i) ns) [⟨(x1, x2), tornC no sa, no, false⟩] rfl ((HO.out.on HB2.out).on (below_alloc _ _)) (some ⟨V2.heap.size, 0, none⟩) 1 1 rfl rfl (fun hh => by cases hh) (sec_five (HN2.out _)) (by rw [length_restR, List.length_take]; simp; omega) (Nat.le_refl _) (HBr.out.trans ((below_step HB2.out (below_alloc _ _)).mono hsz)) ?_
                   intro v1 w3 hown1 hb3 _
                   have HO1 : Hid (OwnS w3 W.heap.size v1 (restR (l.take (i + 1)) ns)) := by rw [HX.out]; exact hown1
                   have HB3 := Lib.hid hb3
                   clear hown1 hb3)
                | fail)
              go_roundw
              case rel => exact ⟨_, _, i + 1, rfl, by omega, ⟨by go_num, by go_num⟩, HK1, HO1, HB3⟩
              case measure => simp [intOf]; omega

            · have k2 : (nv == 2) = false := by simpa using n2
              have HX : Hid (restR (l.take (i + 1)) ns = restR (l.take i) ns ++ [⟨(x1, x2), sa, no, false⟩]) := by
                show _ = _
                rw [HT.out]; simp only [restO]; simp [chosenC, n1, n2]
              clear HT
              clear n1 n2

              go_wp2_with (first
                | (at_builtin; refine wpList_append_secs W.heap.size _ W rfl _ _ rfl ov (restR (l.take i) ns) [⟨(x1, x2), sa, no, false⟩] rfl (HO.out.on (below_two wr _ _)) (some ⟨wr.heap.size + 1, 0, none⟩) 1 1 rfl rfl (fun hh => by cases hh) (sec_five (heap_two wr _ _).1) (by rw [length_restR, List.length_take]; simp; omega) (Nat.le_refl _) (HBr.out.trans ((below_two wr _ _).mono hsz)) ?_
                   intro v1 w3 hown1 hb3 _
                   have HO1 : Hid (OwnS w3 W.heap.size v1 (restR (l.take (i + 1)) ns)) := by rw [HX.out]; exact hown1
                   have HB3 := Lib.hid hb3
                   clear hown1 hb3)
                | fail)
              go_roundw
              case rel => exact ⟨_, _, i + 1, rfl, by omega, ⟨by go_num, by go_num⟩, HK1, HO1, HB3⟩
              case measure => simp [intOf]; omega

        · have hk2 : ¬ (k : Int) < (cn : Int) := by omega
          have hhd := head_past (ns := ns) (k := k) (by rw [HCN.out]; omega)
          rw [hhd] at HT
          clear hhd
          have HX : Hid (restR (l.take (i + 1)) ns = restR (l.take i) ns ++ [⟨(x1, x2), sa, no, false⟩]) := by
            show _ = _
            rw [HT.out]; simp only [restO]; simp [chosenC]
          clear HT

          go_wp2_with (first
            | (at_builtin; refine wpList_append_secs W.heap.size _ W rfl _ _ rfl ov (restR (l.take i) ns) [⟨(x1, x2), sa, no, false⟩] rfl (HO.out.on (below_two wr _ _)) (some ⟨wr.heap.size + 1, 0, none⟩) 1 1 rfl rfl (fun hh => by cases hh) (sec_five (heap_two wr _ _).1) (by rw [length_restR, List.length_take]; simp; omega) (Nat.le_refl _) (HBr.out.trans ((below_two wr _ _).mono hsz)) ?_
               intro v1 w3 hown1 hb3 _
               have HO1 : Hid (OwnS w3 W.heap.size v1 (restR (l.take (i + 1)) ns)) := by rw [HX.out]; exact hown1
               have HB3 := Lib.hid hb3
               clear hown1 hb3)
            | fail)
          go_roundw
          case rel => exact ⟨_, _, i + 1, rfl, by omega, ⟨by go_num, by go_num⟩, HK1, HO1, HB3⟩
          case measure => simp [intOf]; omega

    · obtain rfl : i = L := by omega
      have hO := HO.out
      rw [List.take_of_length_le (by rw [HL.out]; exact Nat.le_refl _)] at hO
      obtain ⟨a3, cc3, rfl, hlst⟩ := hO.lst
      have HLs := Lib.hid hlst
      have HG8 := Lib.hid hgr
      have hgr' := (HBr.out.block _ (blk_lt HG1'.out)).trans HG1'.out
      have HG8' := Lib.hid hgr'
      have HB8 := Lib.hid (below_step HB1.out HBr.out)
      obtain ⟨c0, c1, c2, c3, c4, c5⟩ := rd_cells hgr
      obtain ⟨d0, d1, d2, d3, d4, d5⟩ := rd_cells hgr'
      have e2 : wr.frozen? ⟨w.heap.size, 2, none⟩ = false := frozen_of hgr
      have e3 : wr.frozen? ⟨w.heap.size, 3, none⟩ = false := frozen_of hgr
      have e4 : wr.frozen? ⟨w.heap.size, 4, none⟩ = false := frozen_of hgr
      have f0 : wr.frozen? ⟨w.heap.size + 1, 0, none⟩ = false := frozen_of hgr'
      have f1 : wr.frozen? ⟨w.heap.size + 1, 1, none⟩ = false := frozen_of hgr'
      have f2 : wr.frozen? ⟨w.heap.size + 1, 2, none⟩ = false := frozen_of hgr'
      have f3 : wr.frozen? ⟨w.heap.size + 1, 3, none⟩ = false := frozen_of hgr'
      have f4 : wr.frozen? ⟨w.heap.size + 1, 4, none⟩ = false := frozen_of hgr'
      have f5 : wr.frozen? ⟨w.heap.size + 1, 5, none⟩ = false := frozen_of hgr'
      clear hO HO hlst hgr hgr' HBr hsz
      go_wp2_with fail
      have hfin := fin_rd (V := ((wr.setCell ⟨w.heap.size, 2, none⟩ (.slice a3 (restR l ns).length cc3)).setCell ⟨w.heap.size, 3, none⟩ (.bool false)).setCell ⟨w.heap.size, 4, none⟩ (.bool false)) (B0 := w.heap.size) (B1 := w.heap.size + 1) (below_set (below_set (below_set HB8.out (Nat.le_refl _) _) (Nat.le_refl _) _) (Nat.le_refl _) _) (Nat.le_succ _) (by omega) (fun k hk => ((heap_far _ hk).trans (heap_far _ hk)).trans (heap_far _ hk)) HG8.out HG8'.out HLs.out
      exact bodyPost_ret (results_rd1 rfl _ _ (w.heap.size + 1) _ rfl (hfin _ _ _ _ _ _).1 rfl) rfl ⟨⟨a3, cc3, rfl, (hfin _ _ _ _ _ _).2.1⟩, (hfin _ _ _ _ _ _).2.2⟩
end Go.Proofs.YtjnhcanohefjiaaGreatDoor

namespace Go.Proofs.YtjnhcanohefjiaaGreatDoor
open Go.RowKit Go.Sort Go.Maps

theorem find_one {l : List RS} {k : Pl} {i i' : Nat} {b b' : Bool} (h : FindIs l k i b) (h' : FindIs l k i' b') : i = i' ∧ b = b' := by
  have lem : ∀ {i i' : Nat} {b b' : Bool}, FindIs l k i b → FindIs l k i' b' → ¬ i < i' := by
    intro i i' b b' h h' hlt
    have hi : i < l.length := Nat.lt_of_lt_of_le hlt h'.le
    exact h.ge hi (h'.lt _ (List.mem_take_iff_getElem.2 ⟨i, by omega, rfl⟩))
  have e : i = i' := by
    have := lem h h'
    have := lem h' h
    omega
  subst e
  refine ⟨rfl, ?_⟩
  have := h.is.trans h'.is.symm
  cases b <;> cases b' <;> simp at this ⊢
theorem find_some : ∀ (l : List RS) (k : Pl), ∃ i b, FindIs l k i b
  | [], k => ⟨0, false, Nat.le_refl _, fun x hx => by simp at hx, fun h => by simp at h, by simp⟩
  | x :: r, k => by
    by_cases h : ltP x.key k
    · obtain ⟨i, b, h1, h2, h3, h4⟩ := find_some r k
      refine ⟨i + 1, b, by simpa using h1, fun y hy => ?_, fun hi => ?_, ?_⟩
      · rw [List.take_succ_cons] at hy
        rcases List.mem_cons.1 hy with rfl | hy
        · exact h
        · exact h2 y hy
      · simpa using h3 (by simpa using hi)
      · rw [h4]
        constructor
        · rintro ⟨a, b⟩; exact ⟨by simpa using a, by simpa using b⟩
        · rintro ⟨a, b⟩; exact ⟨by simpa using a, by simpa using b⟩
    · refine ⟨0, decide (x.key = k), Nat.zero_le _, fun y hy => by simp at hy, fun hi => by simpa using h, ?_⟩
      simp
theorem hasR_iff {d : Dev} {x : RD} (h : Tie d x) (k : Pl) : hasR x.r x.s k = decide (hasD d k) := by
  unfold hasR hasD; rw [h.r, h.s]
theorem wrap64_eq (n : Int) : wrap64 n = IntKind.i64.wrap n := by
  simp [IntKind.wrap, IntKind.bits, IntKind.signed, wrap64]
  split <;> omega
/-- What the document's Write hands back, whatever comes. -/
theorem rwrite_ {w : World} {a : Option Addr} {c : Nat} (x : RD) (d : Dev) (k : Pl) (xs : List Nat) (h : LstS w a c x.l) (ht : Tie d x) (hx : ∀ y ∈ xs, y < 256) (hl : x.l.length ≤ 1000) :
    Calls Tryz.prog 59 #[rdV x a c, .int .i64 k.1, .int .i64 k.2, .string (bs xs)] w fun e w' => (∃ a' c', e = .returned (.tuple #[rdV (writeR x d k xs) a' c', .int .i64 (wErr d k xs.length : Nat)]) ∧ LstS w' a' c' (writeR x d k xs).l) ∧ Below w.heap.size w w' := by
  have hhas := hasR_iff ht k
  obtain ⟨g, j⟩ := k
  have hcr := ht.cr
  by_cases h1 : hasD d (g, j)
  · rw [decide_eq_true h1] at hhas
    by_cases h2 : 64 < xs.length
    · have e1 : writeR x d (g, j) xs = x := by unfold writeR; rw [if_pos (.inr (.inl h2))]
      have e2 : wErr d (g, j) xs.length = 2 := by unfold wErr; rw [if_neg (fun e => e h1), if_pos h2]
      rw [e1, e2]
      exact (rwrite_no2 x.r x.s x.left x.crashed x.armed a x.l.length c g j (bs xs) w hhas (by rw [bs_size]; exact h2)).mono fun e w' ⟨he, hb⟩ => ⟨⟨a, c, he, h.on hb⟩, hb⟩
    · cases h3 : d.crashed
      · have hf : ∀ i b, FindIs x.l (g, j) i b → ∀ V : World, Below w.heap.size w V → Calls Tryz.prog 56 #[.agg #[.int .i64 x.r, .int .i64 x.s, .slice a x.l.length c, .bool false, .bool x.armed, .int .i64 x.left], .int .i64 g, .int .i64 j] V fun e w' => e = .returned (.tuple #[.int .i64 (i : Int), .bool b]) ∧ Below V.heap.size V w' := fun i b hi V hV =>
          (rfind_ x.r x.s x.left false x.armed a x.l.length c x.l g j V rfl ((h.on hV).1) (by omega)).mono fun e w' ⟨⟨i', b', he, hi'⟩, hb⟩ => by
            obtain ⟨rfl, rfl⟩ := find_one hi hi'
            exact ⟨he, hb⟩
        have e1 : writeR x d (g, j) xs = doneR x (g, j) (fillC xs) := by unfold writeR; rw [if_neg (fun e => by rcases e with e | e | e; exact e h1; exact h2 e; rw [h3] at e; cases e)]
        have e2 : wErr d (g, j) xs.length = if d.armed = true ∧ d.left = 0 then 60 else 0 := by unfold wErr; rw [if_neg (fun e => e h1), if_neg h2, if_neg (by rw [h3]; simp)]
        have hW : ∀ e w', WroteTo w x.r x.s x.left x.armed (putR x.l (g, j) (fillC xs)) e w' → (∃ a' c', e = .returned (.tuple #[rdV (writeR x d (g, j) xs) a' c', .int .i64 (wErr d (g, j) xs.length : Nat)]) ∧ LstS w' a' c' (writeR x d (g, j) xs).l) ∧ Below w.heap.size w w' := by
          rintro e w' ⟨⟨a', c', rfl, hls⟩, hb⟩
          refine ⟨⟨a', c', ?_, ?_⟩, hb⟩
          · rw [e1, e2]
            have hc0 : x.crashed = false := by rw [hcr, h3]
            unfold doneR rdV rdC
            cases ha : x.armed
            · have hda : d.armed = false := by rw [← ht.ar, ha]
              simp [hda, hc0, wrap64_eq]
            · have hda : d.armed = true := by rw [← ht.ar, ha]
              have hlf := ht.lf hda
              by_cases h0 : x.left = 0
              · simp [h0, hda, ← hlf]
              · simp [h0, hda, ← hlf, hc0, wrap64_eq]
          · rw [e1, show (doneR x (g, j) (fillC xs)).l = putR x.l (g, j) (fillC xs) by unfold doneR; split <;> rfl]
            exact hls
        have ev : rdV x a c = .agg #[.int .i64 x.r, .int .i64 x.s, .slice a x.l.length c, .bool false, .bool x.armed, .int .i64 x.left] := by unfold rdV rdC; rw [hcr, h3]
        rw [ev]
        obtain ⟨i, b, hi⟩ := find_some x.l (g, j)
        have hfi := hf i b hi
        obtain ⟨s1, s2, s3⟩ := h
        rcases s3 with ⟨rfl, rfl⟩ | ⟨bb, o, cs, z, rfl, _⟩
        · have hnil := secs_none s1
          rw [hnil] at hi hfi hW ⊢
          cases b
          · exact (rwrite_nil x.r x.s x.left x.armed 0 0 g j xs w hhas hx (by omega) (by omega) i hfi hi rfl rfl).mono hW
          · obtain ⟨hh, _⟩ := hi.is.1 rfl; simp at hh
        · cases b
          · exact (rwrite_not x.r x.s x.left x.armed bb o x.l.length c x.l g j xs w hhas hx (by omega) hl i hfi hi rfl s2 s1).mono hW
          · exact (rwrite_is x.r x.s x.left x.armed bb o x.l.length c x.l g j xs w hhas hx (by omega) hl i hfi hi rfl s2 s1).mono hW
      · have e1 : writeR x d (g, j) xs = x := by unfold writeR; rw [if_pos (.inr (.inr h3))]
        have e2 : wErr d (g, j) xs.length = 60 := by unfold wErr; rw [if_neg (fun e => e h1), if_neg h2, if_pos h3]
        have ev : rdV x a c = .agg #[.int .i64 x.r, .int .i64 x.s, .slice a x.l.length c, .bool true, .bool x.armed, .int .i64 x.left] := by unfold rdV rdC; rw [hcr, h3]
        rw [e1, e2, ev]
        exact (rwrite_no3 x.r x.s x.left x.armed a x.l.length c g j (bs xs) w hhas (by rw [bs_size]; omega)).mono fun e w' ⟨he, hb⟩ => ⟨⟨a, c, he.trans (by rw [ev]; rfl), h.on hb⟩, hb⟩
  · rw [decide_eq_false h1] at hhas
    have e1 : writeR x d (g, j) xs = x := by unfold writeR; rw [if_pos (.inl h1)]
    have e2 : wErr d (g, j) xs.length = 1 := by unfold wErr; rw [if_pos h1]
    rw [e1, e2]
    exact (rwrite_no1 x.r x.s x.left x.crashed x.armed a x.l.length c g j (bs xs) w hhas).mono fun e w' ⟨he, hb⟩ => ⟨⟨a, c, he, h.on hb⟩, hb⟩
/-- What the document's Read hands back. -/
theorem rreadT {w : World} {a : Option Addr} {c : Nat} (x : RD) (d : Dev) (k : Pl) (h : LstS w a c x.l) (ht : Tie d x) (hl : x.l.length ≤ 1000) :
    Calls Tryz.prog 29 #[rdV x a c, .int .i64 k.1, .int .i64 k.2] w fun e w' => e = .returned (.tuple #[.string (if rErr d k = 0 then bs (readD d k) else bs []), .int .i64 (rErr d k : Nat)]) ∧ Below w.heap.size w w' :=
  (rread_ x.r x.s x.left x.crashed x.armed a x.l.length c x.l k w rfl h.1 (by omega) ht.srt).mono fun e w' ⟨he, hb⟩ => by
    refine ⟨he.trans ?_, hb⟩
    rw [hasR_iff ht, ht.cr, tie_read ht]
    unfold rErr
    by_cases h1 : hasD d k
    · cases h2 : d.crashed <;> simp [h1]
    · simp [h1]
end Go.Proofs.YtjnhcanohefjiaaGreatDoor

namespace Go.Proofs.YtjnhcanohefjiaaGreatDoor
open Go.RowKit Go.Sort Go.Maps

theorem rsyncT {w : World} {a : Option Addr} {c : Nat} (x : RD) (d : Dev) (g : Int) (h : LstS w a c x.l) (ht : Tie d x) (hs : 1 ≤ d.s) (hl : x.l.length ≤ 1000) :
    Calls Tryz.prog 60 #[rdV x a c, .int .i64 g] w fun e w' => (∃ a' c', e = .returned (.tuple #[rdV (syncRD x d g) a' c', .int .i64 (sErr d g : Nat)]) ∧ LstS w' a' c' (syncRD x d g).l) ∧ Below w.heap.size w w' := by
  have hhas : hasR x.r x.s (g, 0) = decide (0 ≤ g ∧ g < d.r) := by
    unfold hasR
    rw [ht.r, ht.s]
    by_cases h1 : 0 ≤ g ∧ g < d.r
    · rw [decide_eq_true h1, decide_eq_true ⟨h1.1, h1.2, by show (0 : Int) ≤ 0; omega, by show (0 : Int) < d.s; omega⟩]
    · rw [decide_eq_false h1, decide_eq_false (fun e => h1 ⟨e.1, e.2.1⟩)]
  have hcr := ht.cr
  by_cases h1 : 0 ≤ g ∧ g < d.r
  · rw [decide_eq_true h1] at hhas
    cases h3 : d.crashed
    · have e2 : sErr d g = 0 := by unfold sErr; rw [if_neg (fun e => e h1), if_neg (by rw [h3]; simp)]
      have e1 : syncRD x d g = { x with l := syncR g x.l } := by unfold syncRD; rw [if_pos e2]
      have ev : rdV x a c = .agg #[.int .i64 x.r, .int .i64 x.s, .slice a x.l.length c, .bool false, .bool x.armed, .int .i64 x.left] := by unfold rdV rdC; rw [hcr, h3]
      rw [e1, e2, ev]
      refine (rsync_ok x.r x.s x.left x.armed a x.l.length c x.l g w hhas rfl h.1 hl).mono fun e w' ⟨⟨a', c', he, hls⟩, hb⟩ => ⟨⟨a', c', he.trans ?_, hls⟩, hb⟩
      unfold rdV rdC
      simp [hcr, h3]
    · have e2 : sErr d g = 60 := by unfold sErr; rw [if_neg (fun e => e h1), if_pos h3]
      have e1 : syncRD x d g = x := by unfold syncRD; rw [if_neg (by rw [e2]; decide)]
      have ev : rdV x a c = .agg #[.int .i64 x.r, .int .i64 x.s, .slice a x.l.length c, .bool true, .bool x.armed, .int .i64 x.left] := by unfold rdV rdC; rw [hcr, h3]
      rw [e1, e2, ev]
      exact (rsync_no3 x.r x.s x.left x.armed a x.l.length c g w hhas).mono fun e w' ⟨he, hb⟩ => ⟨⟨a, c, he.trans (by rw [ev]; rfl), h.on hb⟩, hb⟩
  · rw [decide_eq_false h1] at hhas
    have e2 : sErr d g = 1 := by unfold sErr; rw [if_pos h1]
    have e1 : syncRD x d g = x := by unfold syncRD; rw [if_neg (by rw [e2]; decide)]
    rw [e1, e2]
    exact (rsync_no1 x.r x.s x.left x.crashed x.armed a x.l.length c g w hhas).mono fun e w' ⟨he, hb⟩ => ⟨⟨a, c, he, h.on hb⟩, hb⟩
theorem rrestT {w : World} {a : Option Addr} {c : Nat} (x : RD) (d : Dev) (ca : Option Addr) (ns : List Int) (cn cc : Nat) (h : LstS w a c x.l) (ht : Tie d x) (hl : x.l.length ≤ 1000) (hci : IntsIn w ca ns) (hcn : ns.length = cn) :
    Calls Tryz.prog 40 #[rdV x a c, .slice ca cn cc] w fun e w' => (∃ a' c', e = .returned (rdV (restRD x ns) a' c') ∧ LstS w' a' c' (restRD x ns).l) ∧ Below w.heap.size w w' :=
  (rrest0_ x.r x.s x.left x.crashed x.armed a x.l.length c x.l ca ns cn cc w rfl h.1 hl hci hcn (fun y hy => ⟨(ht.ok y hy).1.1, (ht.ok y hy).2.1.1⟩)).mono fun _ _ ⟨⟨a', c', he, hls⟩, hb⟩ => ⟨⟨a', c', he, hls⟩, hb⟩
end Go.Proofs.YtjnhcanohefjiaaGreatDoor
