/- The walk of the document's Sync. -/
import Derived.Test.YtjnhcanohefjiaaGreatDoorRWrite
import Derived.Test.YtjnhcanohefjiaaGreatDoorRSync
namespace Go.Proofs.YtjnhcanohefjiaaGreatDoor
open Go.RowKit Go.Sort Go.Maps

/-- A device is changed in its own block, and stored whole in another. -/
theorem fin_rd {w w8 V : World} {N B0 B1 : Nat} {q : Array Value} {y0 y1 y2 y3 y4 y5 : Value} {a : Option Addr} {cc : Nat} {l : List RS} (hB : Below N w V) (h1 : N ≤ B1) (hne : B1 ≠ B0) (hfar : ∀ k, k ≠ B0 → V.heap[k]? = w8.heap[k]?) (hg0 : w8.heap[B0]? = some (.cells q 33 (0, 0))) (hg1 : w8.heap[B1]? = some (.cells #[y0, y1, y2, y3, y4, y5] 33 (0, 0))) (hl : LstS w8 a cc l) (v0 v1 v2 v3 v4 v5 : Value) :
    (((((((V.setCell ⟨B1, 0, none⟩ v0).setCell ⟨B1, 1, none⟩ v1).setCell ⟨B1, 2, none⟩ v2).setCell ⟨B1, 3, none⟩ v3).setCell ⟨B1, 4, none⟩ v4).setCell ⟨B1, 5, none⟩ v5).heap[B1]? = some (.cells #[v0, v1, v2, v3, v4, v5] 33 (0, 0)))
    ∧ LstS ((((((V.setCell ⟨B1, 0, none⟩ v0).setCell ⟨B1, 1, none⟩ v1).setCell ⟨B1, 2, none⟩ v2).setCell ⟨B1, 3, none⟩ v3).setCell ⟨B1, 4, none⟩ v4).setCell ⟨B1, 5, none⟩ v5) a cc l
    ∧ Below N w ((((((V.setCell ⟨B1, 0, none⟩ v0).setCell ⟨B1, 1, none⟩ v1).setCell ⟨B1, 2, none⟩ v2).setCell ⟨B1, 3, none⟩ v3).setCell ⟨B1, 4, none⟩ v4).setCell ⟨B1, 5, none⟩ v5) := by
  refine ⟨six_heap ((hfar _ hne).trans hg1) _ _ _ _ _ _, hl.stay fun k' cs z hk => ?_, six_below hB h1 _ _ _ _ _ _⟩
  have k0 : k' ≠ B0 := fun e => by rw [e, hg0] at hk; simp only [Option.some.injEq, Obj.cells.injEq] at hk; exact absurd hk.2.1 (by decide)
  have k1 : k' ≠ B1 := fun e => by rw [e, hg1] at hk; simp only [Option.some.injEq, Obj.cells.injEq] at hk; exact absurd hk.2.1 (by decide)
  rw [six_far _ k1, hfar _ k0]
theorem syncR_take {g : Int} {l : List RS} {i : Nat} (h : i < l.length) : syncR g (l.take (i + 1)) = syncR g (l.take i) ++ [syncO g l[i]] := by
  unfold syncR
  rw [List.take_succ_eq_append_getElem h, List.map_append]; rfl
set_option maxRecDepth 100000 in
set_option maxHeartbeats 4000000 in
theorem rsync_no1 (r s lf : Int) (cr ar : Bool) (a : Option Addr) (L c : Nat) (g : Int) (w : World) (hb : hasR r s (g, 0) = false) :
    Calls Tryz.prog 60 #[.agg #[.int .i64 r, .int .i64 s, .slice a L c, .bool cr, .bool ar, .int .i64 lf], .int .i64 g] w fun e w' => e = .returned (.tuple #[.agg #[.int .i64 r, .int .i64 s, .slice a L c, .bool cr, .bool ar, .int .i64 lf], .int .i64 1]) ∧ Below w.heap.size w w' := by
  have HH : Hid (∀ V : World, Calls Tryz.prog 55 #[.agg #[.int .i64 r, .int .i64 s, .slice a L c, .bool cr, .bool ar, .int .i64 lf], .int .i64 g, .int .i64 0] V fun e w' => e = .returned (.bool (hasR r s (g, 0))) ∧ Below V.heap.size V w') := fun V => rhas_ r s lf _ cr ar g 0 V
  obtain ⟨W, hW⟩ : ∃ W, W = (w.alloc (.cells #[.int .i64 r, .int .i64 s, .slice a L c, .bool cr, .bool ar, .int .i64 lf] 33)).alloc (.cells #[.int .i64 0, .int .i64 0, .slice none 0 0, .bool false, .bool false, .int .i64 0] 33) := ⟨_, rfl⟩
  have HB : Hid (Below w.heap.size w W) := by rw [hW]; exact below_two w _ _
  have HG : Hid (W.heap[w.heap.size]? = some (.cells #[.int .i64 r, .int .i64 s, .slice a L c, .bool cr, .bool ar, .int .i64 lf] 33 (0, 0))) := by rw [hW]; exact (heap_two w _ _).2
  have HG' : Hid (W.heap[w.heap.size + 1]? = some (.cells #[.int .i64 0, .int .i64 0, .slice none 0 0, .bool false, .bool false, .int .i64 0] 33 (0, 0))) := by rw [hW]; exact (heap_two w _ _).1
  have HW := Lib.hid hW
  clear hW
  rw [hb] at HH

  go_enter Tryz.func60, Tryz.ntmps60
  go_wp2_with fail
  rw [← HW.out]
  clear HW
  refine (HH.out W).mono ?_
  rintro e w1 ⟨rfl, hb1⟩
  have HB1 := Lib.hid (below_step HB.out hb1)
  have HG1 := Lib.hid ((hb1.block _ (blk_lt HG.out)).trans HG.out)
  have HG1' := Lib.hid ((hb1.block _ (blk_lt HG'.out)).trans HG'.out)
  clear hb1 HB HG HG' HH
  obtain ⟨c0, c1, c2, c3, c4, c5⟩ := rd_cells HG1.out

  obtain ⟨d0, d1, d2, d3, d4, d5⟩ := rd_cells HG1'.out
  have F1 := Lib.hid (fun o => frozen_of (o := o) HG1'.out)
  have f0 := F1.out 0
  have f1 := F1.out 1
  have f2 := F1.out 2
  have f3 := F1.out 3
  have f4 := F1.out 4
  have f5 := F1.out 5
  go_wp2_with fail

  exact bodyPost_ret (results_rd rfl _ _ (w.heap.size + 1) _ _ rfl rfl (six_heap HG1'.out _ _ _ _ _ _) rfl) rfl ⟨rfl, six_below HB1.out (by omega) _ _ _ _ _ _⟩
set_option maxRecDepth 100000 in
set_option maxHeartbeats 4000000 in
theorem rsync_no3 (r s lf : Int) (ar : Bool) (a : Option Addr) (L c : Nat) (g : Int) (w : World) (hb : hasR r s (g, 0) = true) :
    Calls Tryz.prog 60 #[.agg #[.int .i64 r, .int .i64 s, .slice a L c, .bool true, .bool ar, .int .i64 lf], .int .i64 g] w fun e w' => e = .returned (.tuple #[.agg #[.int .i64 r, .int .i64 s, .slice a L c, .bool true, .bool ar, .int .i64 lf], .int .i64 60]) ∧ Below w.heap.size w w' := by
  have HH : Hid (∀ V : World, Calls Tryz.prog 55 #[.agg #[.int .i64 r, .int .i64 s, .slice a L c, .bool true, .bool ar, .int .i64 lf], .int .i64 g, .int .i64 0] V fun e w' => e = .returned (.bool (hasR r s (g, 0))) ∧ Below V.heap.size V w') := fun V => rhas_ r s lf _ true ar g 0 V
  obtain ⟨W, hW⟩ : ∃ W, W = (w.alloc (.cells #[.int .i64 r, .int .i64 s, .slice a L c, .bool true, .bool ar, .int .i64 lf] 33)).alloc (.cells #[.int .i64 0, .int .i64 0, .slice none 0 0, .bool false, .bool false, .int .i64 0] 33) := ⟨_, rfl⟩
  have HB : Hid (Below w.heap.size w W) := by rw [hW]; exact below_two w _ _
  have HG : Hid (W.heap[w.heap.size]? = some (.cells #[.int .i64 r, .int .i64 s, .slice a L c, .bool true, .bool ar, .int .i64 lf] 33 (0, 0))) := by rw [hW]; exact (heap_two w _ _).2
  have HG' : Hid (W.heap[w.heap.size + 1]? = some (.cells #[.int .i64 0, .int .i64 0, .slice none 0 0, .bool false, .bool false, .int .i64 0] 33 (0, 0))) := by rw [hW]; exact (heap_two w _ _).1
  have HW := Lib.hid hW
  clear hW
  rw [hb] at HH

  go_enter Tryz.func60, Tryz.ntmps60
  go_wp2_with fail
  rw [← HW.out]
  clear HW
  refine (HH.out W).mono ?_
  rintro e w1 ⟨rfl, hb1⟩
  have HB1 := Lib.hid (below_step HB.out hb1)
  have HG1 := Lib.hid ((hb1.block _ (blk_lt HG.out)).trans HG.out)
  have HG1' := Lib.hid ((hb1.block _ (blk_lt HG'.out)).trans HG'.out)
  clear hb1 HB HG HG' HH
  obtain ⟨c0, c1, c2, c3, c4, c5⟩ := rd_cells HG1.out

  obtain ⟨d0, d1, d2, d3, d4, d5⟩ := rd_cells HG1'.out
  have F1 := Lib.hid (fun o => frozen_of (o := o) HG1'.out)
  have f0 := F1.out 0
  have f1 := F1.out 1
  have f2 := F1.out 2
  have f3 := F1.out 3
  have f4 := F1.out 4
  have f5 := F1.out 5
  go_wp2_with fail

  exact bodyPost_ret (results_rd rfl _ _ (w.heap.size + 1) _ _ rfl rfl (six_heap HG1'.out _ _ _ _ _ _) rfl) rfl ⟨rfl, six_below HB1.out (by omega) _ _ _ _ _ _⟩
set_option maxRecDepth 100000 in
set_option maxHeartbeats 4000000 in
theorem rsync_ok (r s lf : Int) (ar : Bool) (a : Option Addr) (L c : Nat) (l : List RS) (g : Int) (w : World) (hb : hasR r s (g, 0) = true) (hL : L = l.length) (h : SecsIn w a l) (hl : L ≤ 1000) :
    Calls Tryz.prog 60 #[.agg #[.int .i64 r, .int .i64 s, .slice a L c, .bool false, .bool ar, .int .i64 lf], .int .i64 g] w fun e w' => (∃ a' c', e = .returned (.tuple #[.agg #[.int .i64 r, .int .i64 s, .slice a' (syncR g l).length c', .bool false, .bool ar, .int .i64 lf], .int .i64 0]) ∧ LstS w' a' c' (syncR g l)) ∧ Below w.heap.size w w' := by
  have HH : Hid (∀ V : World, Calls Tryz.prog 55 #[.agg #[.int .i64 r, .int .i64 s, .slice a L c, .bool false, .bool ar, .int .i64 lf], .int .i64 g, .int .i64 0] V fun e w' => e = .returned (.bool (hasR r s (g, 0))) ∧ Below V.heap.size V w') := fun V => rhas_ r s lf _ false ar g 0 V
  obtain ⟨W, hW⟩ : ∃ W, W = (w.alloc (.cells #[.int .i64 r, .int .i64 s, .slice a L c, .bool false, .bool ar, .int .i64 lf] 33)).alloc (.cells #[.int .i64 0, .int .i64 0, .slice none 0 0, .bool false, .bool false, .int .i64 0] 33) := ⟨_, rfl⟩
  have HB : Hid (Below w.heap.size w W) := by rw [hW]; exact below_two w _ _
  have HG : Hid (W.heap[w.heap.size]? = some (.cells #[.int .i64 r, .int .i64 s, .slice a L c, .bool false, .bool ar, .int .i64 lf] 33 (0, 0))) := by rw [hW]; exact (heap_two w _ _).2
  have HG' : Hid (W.heap[w.heap.size + 1]? = some (.cells #[.int .i64 0, .int .i64 0, .slice none 0 0, .bool false, .bool false, .int .i64 0] 33 (0, 0))) := by rw [hW]; exact (heap_two w _ _).1
  have HW := Lib.hid hW
  clear hW

  rw [hb] at HH
  have HI := Lib.hid h
  have HL := Lib.hid hL
  clear hb h hL

  go_enter Tryz.func60, Tryz.ntmps60
  go_wp2_with fail
  rw [← HW.out]
  clear HW
  refine (HH.out W).mono ?_
  rintro e w1 ⟨rfl, hb1⟩
  have HB1 := Lib.hid (below_step HB.out hb1)
  have HG1 := Lib.hid ((hb1.block _ (blk_lt HG.out)).trans HG.out)
  have HG1' := Lib.hid ((hb1.block _ (blk_lt HG'.out)).trans HG'.out)
  clear hb1 HB HG HG' HH
  obtain ⟨c0, c1, c2, c3, c4, c5⟩ := rd_cells HG1.out

  have HI1 := Lib.hid (HI.out.on HB1.out)
  clear HI
  go_wp2_with fail
  clear c0 c1 c2 c3 c4 c5
  go_loopw [6, 7, 8] (fun sv iv _ wr => ∃ (ov : Value) (i : Nat), ov = sv ∧ i ≤ L ∧ iv = .int .i64 i ∧ Hid (OwnS wr w1.heap.size ov (syncR g (l.take i))) ∧ Hid (Below w1.heap.size w1 wr)) (fun _ iv _ _ => L - (intOf iv).toNat)
  case atStart => exact ⟨_, 0, rfl, Nat.zero_le _, rfl, ownS_nil _ _, Below.refl _ _⟩
  case round =>
    obtain ⟨ov, i, rfl, hi, rfl, HO, HBr⟩ := hrel
    have hgr := (HBr.out.block _ (blk_lt HG1.out)).trans HG1.out
    have hsz := HBr.out.size
    by_cases hlt : i < L
    · have hlt2 : (i : Int) < (L : Int) := by omega
      have hi2 : i < l.length := by rw [← HL.out]; exact hlt
      obtain ⟨_, _, c2, _, _, _⟩ := rd_cells hgr
      obtain ⟨b, o, rfl, hs⟩ := (HI1.out.on HBr.out) i hi2
      obtain ⟨q0, q1, q2, q3, q4⟩ := hs.cells
      have HT := Lib.hid (syncR_take (g := g) hi2)
      clear hs hgr
      generalize l[i] = x at *
      obtain ⟨⟨x1, x2⟩, sa, no, pe⟩ := x
      simp only at q0 q1 q2 q3 q4
      by_cases h1 : x1 = g
      · have k1 : (x1 == g) = true := by simpa using h1
        cases pe
        · skip
          have HX : Hid (syncR g (l.take (i + 1)) = syncR g (l.take i) ++ [⟨(x1, x2), sa, no, false⟩]) := by
            show _ = _
            rw [HT.out]; congr 2; unfold syncO; simp 
          clear HT h1
          go_wp2_with (first
            | (at_builtin; refine wpList_append_secs w1.heap.size _ w1 rfl _ _ rfl ov (syncR g (l.take i)) [⟨(x1, x2), sa, no, false⟩] rfl (HO.out.on (below_two wr _ _)) (some ⟨wr.heap.size + 1, 0, none⟩) 1 1 rfl rfl (fun hh => by cases hh) (sec_five (heap_two wr _ _).1) (by rw [length_syncR, List.length_take]; simp; omega) (Nat.le_refl _) (HBr.out.trans ((below_two wr _ _).mono hsz)) ?_
               intro v1 w3 hown1 hb3 _
               have HO1 : Hid (OwnS w3 w1.heap.size v1 (syncR g (l.take (i + 1)))) := by rw [HX.out]; exact hown1
               have HB3 := Lib.hid hb3
               clear hown1 hb3)
            | fail)
          go_roundw
          case rel => exact ⟨_, i + 1, rfl, by omega, by go_num, HO1, HB3⟩
          case measure => simp [intOf]; omega

        · skip
          have HX : Hid (syncR g (l.take (i + 1)) = syncR g (l.take i) ++ [⟨(x1, x2), no, no, false⟩]) := by
            show _ = _
            rw [HT.out]; congr 2; unfold syncO; simp [h1]
          clear HT h1
          go_wp2_with (first
            | (at_builtin; refine wpList_append_secs w1.heap.size _ w1 rfl _ _ rfl ov (syncR g (l.take i)) [⟨(x1, x2), no, no, false⟩] rfl (HO.out.on (below_two wr _ _)) (some ⟨wr.heap.size + 1, 0, none⟩) 1 1 rfl rfl (fun hh => by cases hh) (sec_five (heap_two wr _ _).1) (by rw [length_syncR, List.length_take]; simp; omega) (Nat.le_refl _) (HBr.out.trans ((below_two wr _ _).mono hsz)) ?_
               intro v1 w3 hown1 hb3 _
               have HO1 : Hid (OwnS w3 w1.heap.size v1 (syncR g (l.take (i + 1)))) := by rw [HX.out]; exact hown1
               have HB3 := Lib.hid hb3
               clear hown1 hb3)
            | fail)
          go_roundw
          case rel => exact ⟨_, i + 1, rfl, by omega, by go_num, HO1, HB3⟩
          case measure => simp [intOf]; omega

      · have k1 : (x1 == g) = false := by simpa using h1
        have HX : Hid (syncR g (l.take (i + 1)) = syncR g (l.take i) ++ [⟨(x1, x2), sa, no, pe⟩]) := by
          show _ = _
          rw [HT.out]; congr 2; unfold syncO; simp [h1]
        clear HT h1
        go_wp2_with (first
          | (at_builtin; refine wpList_append_secs w1.heap.size _ w1 rfl _ _ rfl ov (syncR g (l.take i)) [⟨(x1, x2), sa, no, pe⟩] rfl (HO.out.on (below_two wr _ _)) (some ⟨wr.heap.size + 1, 0, none⟩) 1 1 rfl rfl (fun hh => by cases hh) (sec_five (heap_two wr _ _).1) (by rw [length_syncR, List.length_take]; simp; omega) (Nat.le_refl _) (HBr.out.trans ((below_two wr _ _).mono hsz)) ?_
             intro v1 w3 hown1 hb3 _
             have HO1 : Hid (OwnS w3 w1.heap.size v1 (syncR g (l.take (i + 1)))) := by rw [HX.out]; exact hown1
             have HB3 := Lib.hid hb3
             clear hown1 hb3)
          | fail)
        go_roundw
        case rel => exact ⟨_, i + 1, rfl, by omega, by go_num, HO1, HB3⟩
        case measure => simp [intOf]; omega

    · obtain rfl : i = L := by omega
      have hO := HO.out
      rw [List.take_of_length_le (by rw [HL.out]; exact Nat.le_refl _)] at hO
      obtain ⟨a3, cc3, rfl, hlst⟩ := hO.lst
      have HLs := Lib.hid hlst
      have HG8 := Lib.hid hgr
      have hgr' := (HBr.out.block _ (blk_lt HG1'.out)).trans HG1'.out
      have HG8' := Lib.hid hgr'
      have HB8 := Lib.hid (below_step HB1.out HBr.out)
      obtain ⟨c0, c1, c2, c3, c4, c5⟩ := rd_cells hgr
      obtain ⟨d0, d1, d2, d3, d4, d5⟩ := rd_cells hgr'
      have e2 : wr.frozen? ⟨w.heap.size, 2, none⟩ = false := frozen_of hgr
      have f0 : wr.frozen? ⟨w.heap.size + 1, 0, none⟩ = false := frozen_of hgr'
      have f1 : wr.frozen? ⟨w.heap.size + 1, 1, none⟩ = false := frozen_of hgr'
      have f2 : wr.frozen? ⟨w.heap.size + 1, 2, none⟩ = false := frozen_of hgr'
      have f3 : wr.frozen? ⟨w.heap.size + 1, 3, none⟩ = false := frozen_of hgr'
      have f4 : wr.frozen? ⟨w.heap.size + 1, 4, none⟩ = false := frozen_of hgr'
      have f5 : wr.frozen? ⟨w.heap.size + 1, 5, none⟩ = false := frozen_of hgr'
      clear hO HO hlst hgr hgr' HBr hsz
      go_wp2_with fail
      have hfin := fin_rd (V := wr.setCell ⟨w.heap.size, 2, none⟩ (.slice a3 (syncR g l).length cc3)) (B0 := w.heap.size) (B1 := w.heap.size + 1) (below_set HB8.out (Nat.le_refl _) _) (Nat.le_succ _) (by omega) (fun k hk => heap_far _ hk) HG8.out HG8'.out HLs.out
      exact bodyPost_ret (results_rd rfl _ _ (w.heap.size + 1) _ _ rfl rfl (hfin _ _ _ _ _ _).1 rfl) rfl ⟨⟨a3, cc3, rfl, (hfin _ _ _ _ _ _).2.1⟩, (hfin _ _ _ _ _ _).2.2⟩
end Go.Proofs.YtjnhcanohefjiaaGreatDoor
