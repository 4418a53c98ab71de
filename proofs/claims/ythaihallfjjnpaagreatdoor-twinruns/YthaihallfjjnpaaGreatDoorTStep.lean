/- The walk of the law's step. -/
import Derived.Test.YthaihallfjjnpaaGreatDoorTStep0
namespace Go.Proofs.YthaihallfjjnpaaGreatDoor
open Go.RowKit Go.Sort Go.Maps

set_option maxRecDepth 100000 in
set_option maxHeartbeats 8000000 in
theorem step0_ {w0 w : World} {p aa bb : Nat} {d : Dev} {K : Nat} {x : RD} {ra : Option Addr} {rc : Nat} {a : Ar} {A : ActV} (h : StepIn w0 w p aa bb d K x ra rc a A) (hk : wrap64 ((IntKind.u64.wrap A.kind).tmod 5) = 0 ∧ IntKind.i64.wrap ((IntKind.u64.wrap A.kind).tmod 5) = 0) :
    Calls Tryz.prog 6 #[.pointer (some ⟨p, 0, none⟩), rdV x ra rc, arV a, actV A] w (StepTo w p aa bb K) := by
  obtain ⟨r, s, l, cr, ar, lf⟩ := x
  obtain ⟨kd, at', da, dxs, dc, ca, cs, cc⟩ := A
  have HP := Lib.hid h
  obtain ⟨ag, af, az⟩ := a
  unfold rdV rdC actV arV
  dsimp only at hk ⊢
  generalize hn : dxs.length = n at *
  generalize hcn : cs.length = cn at *
  generalize hLn : l.length = L at *
  have HN := Lib.hid hn
  have HCN := Lib.hid hcn
  have HLN := Lib.hid hLn
  obtain ⟨W, hW⟩ : ∃ W, W = (((w.alloc (.cells #[.int .i64 r, .int .i64 s, .slice ra L rc, .bool cr, .bool ar, .int .i64 lf] 32)).alloc (.cells #[.int .i64 ag, .int .i64 af, .int .i64 az] 23)).alloc (.cells #[.int .i64 kd, .int .i64 at', .slice da n dc, .slice ca cn cc] 40)).alloc (.cells #[.int .i64 0, .int .i64 0, .slice none 0 0, .bool false, .bool false, .int .i64 0] 32) := ⟨_, rfl⟩
  have hBW : Below w.heap.size w W := by rw [hW]; exact below4w w _ _ _ _
  have hg4 : W.heap[w.heap.size]? = some (.cells #[.int .i64 r, .int .i64 s, .slice ra L rc, .bool cr, .bool ar, .int .i64 lf] 32 (0, 0)) := by rw [hW]; exact (heap4w w _ _ _ _).1
  have hgA : W.heap[w.heap.size + 1]? = some (.cells #[.int .i64 ag, .int .i64 af, .int .i64 az] 23 (0, 0)) := by rw [hW]; exact (heap4w w _ _ _ _).2.1
  have hg5 : W.heap[w.heap.size + 1 + 1]? = some (.cells #[.int .i64 kd, .int .i64 at', .slice da n dc, .slice ca cn cc] 40 (0, 0)) := by rw [hW]; exact (heap4w w _ _ _ _).2.2.1
  have hg6 : W.heap[w.heap.size + 1 + 1 + 1]? = some (.cells #[.int .i64 0, .int .i64 0, .slice none 0 0, .bool false, .bool false, .int .i64 0] 32 (0, 0)) := by rw [hW]; exact (heap4w w _ _ _ _).2.2.2
  have HBW := Lib.hid hBW
  have HG4 := Lib.hid hg4
  have HGA := Lib.hid hgA
  have HG5 := Lib.hid hg5
  have HG6 := Lib.hid hg6
  have HW := Lib.hid hW
  have HlW : Hid (W.heap.size = w.heap.size + 4) := by show _ = _; rw [hW]; simp
  clear h hn hcn hLn hBW hg4 hgA hg5 hg6 hW
  obtain ⟨hk1, hk2⟩ := hk
  go_enter Tryz.func6, Tryz.ntmps6
  go_wp2_with (first
    | (at_builtin; rw [← HW.out]; refine wpList_append_bytes _ rfl _ _ rfl W.heap.size _ [] dxs rfl (own_nil _ _) da n dc rfl HN.out HP.out.dn (HP.out.dat HBW.out) (by have := HP.out.dl; simp only [List.length_nil, Nat.zero_add]; exact Nat.le_trans this (by omega)) (Nat.le_refl _) ?_
       intro v1 w1 hown hgrow
       have hb1 := below_grow (Below.refl _ W) (own_nil W W.heap.size) hgrow
       have hown' : Own w1 W.heap.size v1 dxs := hown
       obtain ⟨ma, mc, rfl, hmi⟩ := mine_at hown'
       rw [HN.out]
       have HM := Lib.hid hmi
       have HB1 := Lib.hid hb1
       have HH4 := Lib.hid ((hb1.block _ (blk_lt HG4.out)).trans HG4.out)
       have HHA := Lib.hid ((hb1.block _ (blk_lt HGA.out)).trans HGA.out)
       have HH5 := Lib.hid ((hb1.block _ (blk_lt HG5.out)).trans HG5.out)
       have HH6 := Lib.hid ((hb1.block _ (blk_lt HG6.out)).trans HG6.out)
       obtain ⟨c0, c1, c2, c3, c4, c5⟩ := rd_cells HH4.out
       obtain ⟨a0, a1, a2⟩ := ArAtR.cells (a := ⟨ag, af, az⟩) HHA.out
       obtain ⟨e0, e1, e2, e3⟩ := act_cells HH5.out
       clear hown hgrow hb1 hown' hmi HG4 HGA HG5 HG6 HW)
    | fail)
  have HBw := Lib.hid (below_step HBW.out HB1.out)

  have hD1 := HP.out.dev.on HBw.out
  have HS : Hid (Calls Tryz.prog 15 #[.pointer (some ⟨p, 0, none⟩), .agg #[.int .i64 ag, .int .i64 af, .int .i64 az], .slice ma n mc] w1 fun e w' => e = .returned (errV (saveE d (⟨ag, af, az⟩ : Ar) dxs)) ∧ DevIn w' p aa bb (saveD d (⟨ag, af, az⟩ : Ar) dxs) (K + 8193) ∧ Fd p aa bb w1 w') := save_ hD1 HP.out.kl (⟨ag, af, az⟩ : Ar) HP.out.ain dxs ma n mc HN.out HM.out.1 HP.out.by8
  clear hD1

  go_wp2_with fail
  refine HS.out.mono ?_
  rintro e w2 ⟨rfl, hD2, hf2⟩

  have hlts := HP.out.dev.lts
  have HF2 := Lib.hid ((below_fd HBw.out p aa bb).trans hf2)
  have hs1 := HB1.out.size
  have hs2 := hf2.size
  have hK4 := (hf2.block _ (blk_lt HH4.out) (by omega) (by omega) (by omega)).trans HH4.out
  have hKA := (hf2.block _ (blk_lt HHA.out) (by omega) (by omega) (by omega)).trans HHA.out
  have hK5 := (hf2.block _ (blk_lt HH5.out) (by omega) (by omega) (by omega)).trans HH5.out
  have hK6 := (hf2.block _ (blk_lt HH6.out) (by omega) (by omega) (by omega)).trans HH6.out
  have HK4 := Lib.hid hK4
  have HKA := Lib.hid hKA
  have HK5 := Lib.hid hK5
  have HK6 := Lib.hid hK6
  have HD2 := Lib.hid hD2
  clear c0 c1 c2 c3 c4 c5 a0 a1 a2 e0 e1 e2 e3
  obtain ⟨c0, c1, c2, c3, c4, c5⟩ := rd_cells hK4
  obtain ⟨a0, a1, a2⟩ := ArAtR.cells (a := ⟨ag, af, az⟩) hKA
  obtain ⟨e0, e1, e2, e3⟩ := act_cells hK5

  have HB02 := Lib.hid (HP.out.bw.trans (HF2.out.below (N := w0.heap.size) HP.out.bw.size HP.out.lo.1 HP.out.lo.2.1 HP.out.lo.2.2))
  have hcv : (convert 37 9 (.slice da n dc)).run Tryz.prog w2 = .ok (.string (bs dxs)) w2 := conv_ w2 da n dc dxs HN.out.symm (HP.out.dat0.on HB02.out)
  have HM2 : Hid (BytesIn w2 ma dxs ∧ BytesIn w2 da dxs) := ⟨HM.out.1.fd hf2 (HP.out.dev.on HBw.out) (N := W.heap.size) (by have := HlW.out; omega) HM.out.2.2, HP.out.dat0.on HB02.out⟩
  clear HB02

  have HR : Hid (Calls Tryz.prog 16 #[.agg #[.int .i64 r, .int .i64 s, .slice ra L rc, .bool cr, .bool ar, .int .i64 lf], .agg #[.int .i64 ag, .int .i64 af, .int .i64 az], .string (bs dxs)] w2 fun e w' => RSvTo w2 d (⟨ag, af, az⟩ : Ar) dxs e w') := by
    have := rsave_ (w := w2) ⟨r, s, l, cr, ar, lf⟩ ra rc d (⟨ag, af, az⟩ : Ar) dxs ⟨HP.out.lst.fd HP.out.dev HF2.out, HP.out.tie, HP.out.dev.ok, HP.out.len, HP.out.dev.lim⟩ HP.out.ain HP.out.rs HP.out.dev.lft HP.out.by8
    unfold rdV rdC arV at this
    dsimp only at this
    rw [HLN.out] at this
    exact this

  generalize hsx : bs dxs = sx at *
  have HSX := Lib.hid hsx
  clear hsx
  clear hf2 hK4 hKA hK5 hK6 hD2 HS hlts
  go_wp2_with fail
  refine HR.out.mono ?_
  rintro e w3 ⟨X', a3, c3', rfl, hl3, hti, hb3⟩
  clear hcv
  have HTi : Hid (Tie (saveD d (⟨ag, af, az⟩ : Ar) dxs) X' ∧ (saveD d (⟨ag, af, az⟩ : Ar) dxs).r = 2 ∧ (saveD d (⟨ag, af, az⟩ : Ar) dxs).s = 12) := ⟨hti, (size_save d _ _).1.trans HP.out.rs.1, (size_save d _ _).2.trans HP.out.rs.2⟩
  clear hti
  have HQ6 := Lib.hid ((hb3.block _ (blk_lt HK6.out)).trans HK6.out)
  have HQ5 := Lib.hid ((hb3.block _ (blk_lt HK5.out)).trans HK5.out)
  have HF3 := Lib.hid (HF2.out.trans (below_fd hb3 p aa bb))
  have HD3 := Lib.hid (HD2.out.on hb3)
  have HB3 := Lib.hid hb3
  obtain ⟨r', s', l', cr', ar', lf'⟩ := X'
  unfold rdV rdC
  dsimp only at hl3 ⊢
  generalize hL' : l'.length = L' at *
  have HL' := Lib.hid hL'
  have HL3 := Lib.hid hl3
  generalize hev : errV (saveE d (⟨ag, af, az⟩ : Ar) dxs) = ev at *
  generalize hnn : saveE d (⟨ag, af, az⟩ : Ar) dxs = nn at *
  have HEV := Lib.hid hev
  clear hL' hl3 hb3 hev hnn

  have hlts := HP.out.dev.lts
  obtain ⟨V, hV⟩ : ∃ V, V = w3.alloc (.cells #[.int .i64 r', .int .i64 s', .slice a3 L' c3', .bool cr', .bool ar', .int .i64 lf'] 32) := ⟨_, rfl⟩
  have hV3 : V.heap[w3.heap.size]? = some (.cells #[.int .i64 r', .int .i64 s', .slice a3 L' c3', .bool cr', .bool ar', .int .i64 lf'] 32 (0, 0)) := by rw [hV]; exact alloc_at w3 _
  have hBV : Below w3.heap.size w3 V := by rw [hV]; exact below_alloc w3 _
  have HV := Lib.hid hV
  have hg6 := (hBV.block _ (blk_lt HQ6.out)).trans HQ6.out
  clear hV
  have hVS := hV3

  have hne : w3.heap.size ≠ w.heap.size + 1 + 1 + 1 := by have := blk_lt HQ6.out; omega
  have GL : Hid (∀ U, V.grownBy U (some (w.heap.size + 1 + 1 + 1)) → (Instr.loadAt 32 (.pointer (some ⟨w3.heap.size, 0, none⟩))).run Tryz.prog U = .ok (.agg #[.int .i64 r', .int .i64 s', .slice a3 L' c3', .bool cr', .bool ar', .int .i64 lf']) U) := fun U hU => load_rd ((hU.block _ (blk_lt hVS) (fun e => hne (by simpa using e))).trans hVS) rfl
  have HE : Hid (DevIn V p aa bb (saveD d (⟨ag, af, az⟩ : Ar) dxs) (K + 8193) ∧ LstS V a3 c3' l' ∧ Fd p aa bb w V ∧ V.heap[w.heap.size + 1 + 1 + 1]? = some (.cells #[.int .i64 0, .int .i64 0, .slice none 0 0, .bool false, .bool false, .int .i64 0] 32 (0, 0))) := ⟨HD3.out.on hBV, HL3.out.on hBV, HF3.out.trans (below_fd hBV p aa bb), hg6⟩
  have HNm : Hid (∀ U, Below V.heap.size V U → Calls Tryz.prog 11 #[ev] U fun e w' => e = .returned (.int .i64 (nn : Int)) ∧ Below U.heap.size U w') := fun U hU => by
    rw [← HEV.out]
    exact num_ nn U (HP.out.err.on (HP.out.bw.trans ((HE.out.2.2.1.below (N := w0.heap.size) HP.out.bw.size HP.out.lo.1 HP.out.lo.2.1 HP.out.lo.2.2).trans (hU.mono (Nat.le_trans HP.out.bw.size HE.out.2.2.1.size)))))
  clear hne hVS

  have hB2V := below_step HB3.out hBV
  have hV5 := (hBV.block _ (blk_lt HQ5.out)).trans HQ5.out
  have HCM : Hid (∀ U, V.grownBy U (some (w.heap.size + 1 + 1 + 1)) → (convert 37 9 (.slice ma n mc)).run Tryz.prog U = .ok (.string sx) U) := fun U hU => by
    rw [← HSX.out]
    exact conv_ U ma n mc dxs HN.out.symm (bytes_past (HM2.out.1.on hB2V) hU (fun b o e => by have := HM.out.2.2 b o e; have := HlW.out; omega))
  have HCD : Hid (∀ U, V.grownBy U (some (w.heap.size + 1 + 1 + 1)) → (convert 37 9 (.slice da n dc)).run Tryz.prog U = .ok (.string sx) U) := fun U hU => by
    rw [← HSX.out]
    exact conv_ U da n dc dxs HN.out.symm (bytes_under HP.out.dat0 (HM2.out.2.on hB2V) hU (by have := HP.out.bw.size; omega))
  have FD : Hid (∀ U, V.grownBy U (some (w.heap.size + 1 + 1 + 1)) → U.cell? ⟨w.heap.size + 1 + 1, 2, none⟩ = some (.slice da n dc)) := fun U hU => (act_cells ((hU.block _ (blk_lt hV5) (fun e => by simp at e)).trans hV5)).2.2.1
  clear hB2V hV5


  clear hBV hg6 hV3
  go_wp2_with fail
  rw [← HV.out]
  clear HV

  refine wp_region_noPanic ?_
  refine wp_region_held_drew (S := fun U => V.grownBy U (some (w.heap.size + 1 + 1 + 1))) (by kernel_rfl) (grown_drew _ _) (fun hHeld => ?_)
  refine take_at 0 (.agg #[.int .i64 r', .int .i64 s', .slice a3 L' c3', .bool cr', .bool ar', .int .i64 lf']) rfl (by kernel_rfl) (by kernel_rfl) (by kernel_rfl) (fun _ _ _ h => h) (yields_load (by rfl) 32 _ (by rfl) _ _ (by rfl) (GL.out)) (by assumption) ?_
  simp only [Act.put, List.setIfInBounds_toArray, List.set_cons_zero, List.set_cons_succ]
  refine take_at 1 (ev) rfl (by kernel_rfl) (by kernel_rfl) (by kernel_rfl) (fun _ _ _ h => h) (Or.inl ⟨by rfl, ?_⟩) (by assumption) ?_
  · intro V hSV; go_simp
  simp only [Act.put, List.setIfInBounds_toArray, List.set_cons_zero, List.set_cons_succ]
  refine take_at 3 (.int .i64 (nn : Int)) rfl (by kernel_rfl) (by kernel_rfl) (by kernel_rfl) (fun _ _ _ h => h) (Or.inl ⟨by rfl, ?_⟩) (by assumption) ?_
  · intro V hSV; go_simp
  simp only [Act.put, List.setIfInBounds_toArray, List.set_cons_zero, List.set_cons_succ]
  refine wpAnyH_ready (rs := [2]) (by kernel_rfl) (by simp) ?_
  refine AllReadyH.cons rfl (fun KK hK => ?_) AllReadyH.nil
  go_simp
  go_wp2_with (first | (go_at_call 11; refine (HNm.out _ (below_drew _)).mono ?_; rintro e V2 ⟨rfl, hb2⟩))
  refine hK.out _ _ ?_ (fun hHeld2 => ?_)
  · exact grown_below (by assumption) hb2
  clear hK KK
  refine take_at 4 (.bool true) rfl (by kernel_rfl) (by kernel_rfl) (by kernel_rfl) (fun _ _ _ h => h) (Or.inl ⟨by rfl, ?_⟩) (by assumption) ?_
  · intro V hSV; go_simp
  simp only [Act.put, List.setIfInBounds_toArray, List.set_cons_zero, List.set_cons_succ]
  refine take_at 5 (.bool true) rfl (by kernel_rfl) (by kernel_rfl) (by kernel_rfl) (fun _ _ _ h => h) (Or.inl ⟨by rfl, ?_⟩) (by assumption) ?_
  · intro V hSV; go_simp
  simp only [Act.put, List.setIfInBounds_toArray, List.set_cons_zero, List.set_cons_succ]
  refine take_at 6 (.slice ma n mc) rfl (by kernel_rfl) (by kernel_rfl) (by kernel_rfl) (fun _ _ _ h => h) (Or.inl ⟨by rfl, ?_⟩) (by assumption) ?_
  · intro V hSV; go_simp
  simp only [Act.put, List.setIfInBounds_toArray, List.set_cons_zero, List.set_cons_succ]
  refine take_at 7 (.string sx) rfl (by kernel_rfl) (by kernel_rfl) (by kernel_rfl) (fun _ _ _ h => h) (Or.inl ⟨by rfl, ?_⟩) (by assumption) ?_
  · intro V hSV; have e0 := HCM.out V hSV; go_simp
  simp only [Act.put, List.setIfInBounds_toArray, List.set_cons_zero, List.set_cons_succ]
  refine take_at 8 (.pointer (some ⟨w.heap.size + 1 + 1, 2, none⟩)) rfl (by kernel_rfl) (by kernel_rfl) (by kernel_rfl) (fun _ _ _ h => h) (Or.inl ⟨by rfl, ?_⟩) (by assumption) ?_
  · intro V hSV; go_simp
  simp only [Act.put, List.setIfInBounds_toArray, List.set_cons_zero, List.set_cons_succ]
  refine take_at 9 (.slice da n dc) rfl (by kernel_rfl) (by kernel_rfl) (by kernel_rfl) (fun _ _ _ h => h) (Or.inl ⟨by rfl, ?_⟩) (by assumption) ?_
  · intro V hSV; have e0 := FD.out V hSV; go_simp
  simp only [Act.put, List.setIfInBounds_toArray, List.set_cons_zero, List.set_cons_succ]
  refine take_at 10 (.string sx) rfl (by kernel_rfl) (by kernel_rfl) (by kernel_rfl) (fun _ _ _ h => h) (Or.inl ⟨by rfl, ?_⟩) (by assumption) ?_
  · intro V hSV; have e0 := HCD.out V hSV; go_simp
  simp only [Act.put, List.setIfInBounds_toArray, List.set_cons_zero, List.set_cons_succ]
  refine take_at 11 (.bool true) rfl (by kernel_rfl) (by kernel_rfl) (by kernel_rfl) (fun _ _ _ h => h) (Or.inl ⟨by rfl, ?_⟩) (by assumption) ?_
  · intro V hSV; go_simp
  simp only [Act.put, List.setIfInBounds_toArray, List.set_cons_zero, List.set_cons_succ]
  refine take_at 12 (.bool true) rfl (by kernel_rfl) (by kernel_rfl) (by kernel_rfl) (fun _ _ _ h => h) (Or.inl ⟨by rfl, ?_⟩) (by assumption) ?_
  · intro V hSV; go_simp
  simp only [Act.put, List.setIfInBounds_toArray, List.set_cons_zero, List.set_cons_succ]
  clear HCM FD HCD

  have hB2 : Below V.heap.size V V2 := below_step (below_drew _) hb2
  have hfin := step_fin (w := w) (K := K) (cs := #[.int .i64 r', .int .i64 s', .slice a3 L' c3', .bool cr', .bool ar', .int .i64 lf']) (HE.out.1.on hB2) (HE.out.2.1.on hB2) (HE.out.2.2.1.trans (below_fd hB2 p aa bb)) (by omega) hlts ((hB2.block _ (blk_lt HE.out.2.2.2)).trans HE.out.2.2.2) (by omega) HP.out.kl
  have hst := store_rd (cs := #[.int .i64 r', .int .i64 s', .slice a3 L' c3', .bool cr', .bool ar', .int .i64 lf']) ((hB2.block _ (blk_lt HE.out.2.2.2)).trans HE.out.2.2.2) rfl rfl (six_one _ _ _ _ _ _ _ _)
  have hS : V.grownBy (V2.setRow (w.heap.size + 1 + 1 + 1) #[.int .i64 r', .int .i64 s', .slice a3 L' c3', .bool cr', .bool ar', .int .i64 lf']) (some (w.heap.size + 1 + 1 + 1)) := ⟨hHeld2.os, hHeld2.tape, hHeld2.output, by simpa [World.setRow] using hHeld2.size, fun k hk hne => (setRow_other V2 _ k _ (fun e => hne (by rw [e]))).trans (hHeld2.block k hk hne)⟩
  have HFin := Lib.hid hfin
  clear hfin hb2 hB2 GL HNm HE
  refine ready_store 13 rfl (by kernel_rfl) (by rfl) 32 _ _ (by rfl) _ _ (by rfl) (by rfl) hst hS ?_
  refine take_at 14 (.bool true) rfl (by kernel_rfl) (by kernel_rfl) (by kernel_rfl) (fun _ _ _ h => h) (Or.inl ⟨by rfl, ?_⟩) (by assumption) ?_
  · intro V hSV; go_simp
  simp only [Act.put, List.setIfInBounds_toArray, List.set_cons_zero, List.set_cons_succ]
  refine wpAnyH_done (by kernel_rfl) ?_ _
  refine NoPanic.normal ?_
  clear hst hS hHeld hHeld2
  generalize V2.setRow (w.heap.size + 1 + 1 + 1) #[.int .i64 r', .int .i64 s', .slice a3 L' c3', .bool cr', .bool ar', .int .i64 lf'] = V5 at *
  go_wp2_with fail
  refine bodyPost_ret (results_rd rfl _ _ (w.heap.size + 1 + 1 + 1) _ _ rfl rfl HFin.out.1 rfl) rfl ⟨_, ⟨r', s', l', cr', ar', lf'⟩, a3, c3', ?_, ?_, ?_, HFin.out.2.2.2, HTi.out⟩
  · show _ = Ending.returned (.tuple #[.agg (rdC _ _ _ _), _]); unfold rdC; dsimp only; rw [HL'.out]; rfl
  · exact HFin.out.2.1
  · exact HFin.out.2.2.1
set_option maxRecDepth 100000 in
set_option maxHeartbeats 8000000 in
theorem step1_ {w0 w : World} {p aa bb : Nat} {d : Dev} {K : Nat} {x : RD} {ra : Option Addr} {rc : Nat} {a : Ar} {A : ActV} (h : StepIn w0 w p aa bb d K x ra rc a A) (hk : wrap64 ((IntKind.u64.wrap A.kind).tmod 5) = 1 ∧ IntKind.i64.wrap ((IntKind.u64.wrap A.kind).tmod 5) = 1) :
    Calls Tryz.prog 6 #[.pointer (some ⟨p, 0, none⟩), rdV x ra rc, arV a, actV A] w (StepTo w p aa bb K) := by
  obtain ⟨r, s, l, cr, ar, lf⟩ := x
  obtain ⟨kd, at', da, dxs, dc, ca, cs, cc⟩ := A
  have HP := Lib.hid h
  obtain ⟨ag, af, az⟩ := a
  unfold rdV rdC actV arV
  dsimp only at hk ⊢
  generalize hn : dxs.length = n at *
  generalize hcn : cs.length = cn at *
  generalize hLn : l.length = L at *
  have HN := Lib.hid hn
  have HCN := Lib.hid hcn
  have HLN := Lib.hid hLn
  obtain ⟨W, hW⟩ : ∃ W, W = (((w.alloc (.cells #[.int .i64 r, .int .i64 s, .slice ra L rc, .bool cr, .bool ar, .int .i64 lf] 32)).alloc (.cells #[.int .i64 ag, .int .i64 af, .int .i64 az] 23)).alloc (.cells #[.int .i64 kd, .int .i64 at', .slice da n dc, .slice ca cn cc] 40)).alloc (.cells #[.int .i64 0, .int .i64 0, .slice none 0 0, .bool false, .bool false, .int .i64 0] 32) := ⟨_, rfl⟩
  have hBW : Below w.heap.size w W := by rw [hW]; exact below4w w _ _ _ _
  have hg4 : W.heap[w.heap.size]? = some (.cells #[.int .i64 r, .int .i64 s, .slice ra L rc, .bool cr, .bool ar, .int .i64 lf] 32 (0, 0)) := by rw [hW]; exact (heap4w w _ _ _ _).1
  have hgA : W.heap[w.heap.size + 1]? = some (.cells #[.int .i64 ag, .int .i64 af, .int .i64 az] 23 (0, 0)) := by rw [hW]; exact (heap4w w _ _ _ _).2.1
  have hg5 : W.heap[w.heap.size + 1 + 1]? = some (.cells #[.int .i64 kd, .int .i64 at', .slice da n dc, .slice ca cn cc] 40 (0, 0)) := by rw [hW]; exact (heap4w w _ _ _ _).2.2.1
  have hg6 : W.heap[w.heap.size + 1 + 1 + 1]? = some (.cells #[.int .i64 0, .int .i64 0, .slice none 0 0, .bool false, .bool false, .int .i64 0] 32 (0, 0)) := by rw [hW]; exact (heap4w w _ _ _ _).2.2.2
  have HBW := Lib.hid hBW
  have HG4 := Lib.hid hg4
  have HGA := Lib.hid hgA
  have HG5 := Lib.hid hg5
  have HG6 := Lib.hid hg6
  have HW := Lib.hid hW
  have HlW : Hid (W.heap.size = w.heap.size + 4) := by show _ = _; rw [hW]; simp
  clear h hn hcn hLn hBW hg4 hgA hg5 hg6 hW
  obtain ⟨hk1, hk2⟩ := hk
  go_enter Tryz.func6, Tryz.ntmps6
  go_wp2_with (first
    | (at_builtin; rw [← HW.out]; refine wpList_append_bytes _ rfl _ _ rfl W.heap.size _ [] dxs rfl (own_nil _ _) da n dc rfl HN.out HP.out.dn (HP.out.dat HBW.out) (by have := HP.out.dl; simp only [List.length_nil, Nat.zero_add]; exact Nat.le_trans this (by omega)) (Nat.le_refl _) ?_
       intro v1 w1 hown hgrow
       have hb1 := below_grow (Below.refl _ W) (own_nil W W.heap.size) hgrow
       have hown' : Own w1 W.heap.size v1 dxs := hown
       obtain ⟨ma, mc, rfl, hmi⟩ := mine_at hown'
       rw [HN.out]
       have HM := Lib.hid hmi
       have HB1 := Lib.hid hb1
       have HH4 := Lib.hid ((hb1.block _ (blk_lt HG4.out)).trans HG4.out)
       have HHA := Lib.hid ((hb1.block _ (blk_lt HGA.out)).trans HGA.out)
       have HH5 := Lib.hid ((hb1.block _ (blk_lt HG5.out)).trans HG5.out)
       have HH6 := Lib.hid ((hb1.block _ (blk_lt HG6.out)).trans HG6.out)
       obtain ⟨c0, c1, c2, c3, c4, c5⟩ := rd_cells HH4.out
       obtain ⟨a0, a1, a2⟩ := ArAtR.cells (a := ⟨ag, af, az⟩) HHA.out
       obtain ⟨e0, e1, e2, e3⟩ := act_cells HH5.out
       clear hown hgrow hb1 hown' hmi HG4 HGA HG5 HG6 HW)
    | fail)
  have HBw := Lib.hid (below_step HBW.out HB1.out)

  have hD1 := HP.out.dev.on HBw.out
  have HS : Hid (Calls Tryz.prog 17 #[.pointer (some ⟨p, 0, none⟩), .int .i64 ag, .int .i64 at', .slice ma n mc] w1 fun e w' => e = .returned (errV (wErr d (ag, at') n)) ∧ DevIn w' p aa bb (writeD d (ag, at') dxs) (K + 1) ∧ Fd p aa bb w1 w') := write_ hD1 (ag, at') ma dxs n mc HM.out.1 HN.out HP.out.by8 (by have := HP.out.kl; omega)
  clear hD1

  go_wp2_with fail
  refine HS.out.mono ?_
  rintro e w2 ⟨rfl, hD2, hf2⟩

  have hlts := HP.out.dev.lts
  have HF2 := Lib.hid ((below_fd HBw.out p aa bb).trans hf2)
  have hs1 := HB1.out.size
  have hs2 := hf2.size
  have hK4 := (hf2.block _ (blk_lt HH4.out) (by omega) (by omega) (by omega)).trans HH4.out
  have hKA := (hf2.block _ (blk_lt HHA.out) (by omega) (by omega) (by omega)).trans HHA.out
  have hK5 := (hf2.block _ (blk_lt HH5.out) (by omega) (by omega) (by omega)).trans HH5.out
  have hK6 := (hf2.block _ (blk_lt HH6.out) (by omega) (by omega) (by omega)).trans HH6.out
  have HK4 := Lib.hid hK4
  have HKA := Lib.hid hKA
  have HK5 := Lib.hid hK5
  have HK6 := Lib.hid hK6
  have HD2 := Lib.hid hD2
  clear c0 c1 c2 c3 c4 c5 a0 a1 a2 e0 e1 e2 e3
  obtain ⟨c0, c1, c2, c3, c4, c5⟩ := rd_cells hK4
  obtain ⟨a0, a1, a2⟩ := ArAtR.cells (a := ⟨ag, af, az⟩) hKA
  obtain ⟨e0, e1, e2, e3⟩ := act_cells hK5

  have HB02 := Lib.hid (HP.out.bw.trans (HF2.out.below (N := w0.heap.size) HP.out.bw.size HP.out.lo.1 HP.out.lo.2.1 HP.out.lo.2.2))
  have hcv : (convert 37 9 (.slice da n dc)).run Tryz.prog w2 = .ok (.string (bs dxs)) w2 := conv_ w2 da n dc dxs HN.out.symm (HP.out.dat0.on HB02.out)
  clear HB02

  have HR : Hid (Calls Tryz.prog 18 #[.agg #[.int .i64 r, .int .i64 s, .slice ra L rc, .bool cr, .bool ar, .int .i64 lf], .int .i64 ag, .int .i64 at', .string (bs dxs)] w2 fun e w' => (∃ a' c', e = .returned (.tuple #[rdV (writeR ⟨r, s, l, cr, ar, lf⟩ d (ag, at') dxs) a' c', .int .i64 (wErr d (ag, at') n : Nat)]) ∧ LstS w' a' c' (writeR ⟨r, s, l, cr, ar, lf⟩ d (ag, at') dxs).l) ∧ Below w2.heap.size w2 w') := by
    have := rwrite_ (w := w2) (a := ra) (c := rc) ⟨r, s, l, cr, ar, lf⟩ d (ag, at') dxs (HP.out.lst.fd HP.out.dev HF2.out) HP.out.tie HP.out.by8 HP.out.len
    unfold rdV rdC at this
    dsimp only at this
    rw [HLN.out, HN.out] at this
    exact this

  generalize bs dxs = sx at *
  clear hf2 hK4 hKA hK5 hK6 hD2 HS hlts
  go_wp2_with fail
  refine HR.out.mono ?_
  rintro e w3 ⟨⟨a3, c3', rfl, hl3⟩, hb3⟩
  clear hcv
  have HTi : Hid (Tie (writeD d (ag, at') dxs) (writeR ⟨r, s, l, cr, ar, lf⟩ d (ag, at') dxs) ∧ (writeD d (ag, at') dxs).r = 2 ∧ (writeD d (ag, at') dxs).s = 12) := ⟨tie_write HP.out.tie HP.out.by8 HP.out.dev.lft, (size_write d _ _).1.trans HP.out.rs.1, (size_write d _ _).2.trans HP.out.rs.2⟩

  have HQ6 := Lib.hid ((hb3.block _ (blk_lt HK6.out)).trans HK6.out)
  have HF3 := Lib.hid (HF2.out.trans (below_fd hb3 p aa bb))
  have HD3 := Lib.hid (HD2.out.on hb3)
  generalize hX : writeR ⟨r, s, l, cr, ar, lf⟩ d (ag, at') dxs = X' at *
  obtain ⟨r', s', l', cr', ar', lf'⟩ := X'
  unfold rdV rdC
  dsimp only at hl3 ⊢
  generalize hL' : l'.length = L' at *
  have HL' := Lib.hid hL'
  have HL3 := Lib.hid hl3
  generalize hev : errV (wErr d (ag, at') n) = ev at *
  generalize hnn : wErr d (ag, at') n = nn at *
  have HEV := Lib.hid hev
  clear hX hL' hl3 hb3 hev hnn

  have hlts := HP.out.dev.lts
  obtain ⟨V, hV⟩ : ∃ V, V = w3.alloc (.cells #[.int .i64 r', .int .i64 s', .slice a3 L' c3', .bool cr', .bool ar', .int .i64 lf'] 32) := ⟨_, rfl⟩
  have hV3 : V.heap[w3.heap.size]? = some (.cells #[.int .i64 r', .int .i64 s', .slice a3 L' c3', .bool cr', .bool ar', .int .i64 lf'] 32 (0, 0)) := by rw [hV]; exact alloc_at w3 _
  have hBV : Below w3.heap.size w3 V := by rw [hV]; exact below_alloc w3 _
  have HV := Lib.hid hV
  have hg6 := (hBV.block _ (blk_lt HQ6.out)).trans HQ6.out
  clear hV
  have hVS := hV3

  have hne : w3.heap.size ≠ w.heap.size + 1 + 1 + 1 := by have := blk_lt HQ6.out; omega
  have GL : Hid (∀ U, V.grownBy U (some (w.heap.size + 1 + 1 + 1)) → (Instr.loadAt 32 (.pointer (some ⟨w3.heap.size, 0, none⟩))).run Tryz.prog U = .ok (.agg #[.int .i64 r', .int .i64 s', .slice a3 L' c3', .bool cr', .bool ar', .int .i64 lf']) U) := fun U hU => load_rd ((hU.block _ (blk_lt hVS) (fun e => hne (by simpa using e))).trans hVS) rfl
  have HE : Hid (DevIn V p aa bb (writeD d (ag, at') dxs) (K + 1) ∧ LstS V a3 c3' l' ∧ Fd p aa bb w V ∧ V.heap[w.heap.size + 1 + 1 + 1]? = some (.cells #[.int .i64 0, .int .i64 0, .slice none 0 0, .bool false, .bool false, .int .i64 0] 32 (0, 0))) := ⟨HD3.out.on hBV, HL3.out.on hBV, HF3.out.trans (below_fd hBV p aa bb), hg6⟩
  have HNm : Hid (∀ U, Below V.heap.size V U → Calls Tryz.prog 11 #[ev] U fun e w' => e = .returned (.int .i64 (nn : Int)) ∧ Below U.heap.size U w') := fun U hU => by
    rw [← HEV.out]
    exact num_ nn U (HP.out.err.on (HP.out.bw.trans ((HE.out.2.2.1.below (N := w0.heap.size) HP.out.bw.size HP.out.lo.1 HP.out.lo.2.1 HP.out.lo.2.2).trans (hU.mono (Nat.le_trans HP.out.bw.size HE.out.2.2.1.size)))))
  clear hne hVS

  clear hBV hg6 hV3
  go_wp2_with fail
  rw [← HV.out]
  clear HV

  refine wp_region_noPanic ?_
  refine wp_region_held_drew (S := fun U => V.grownBy U (some (w.heap.size + 1 + 1 + 1))) (by kernel_rfl) (grown_drew _ _) (fun hHeld => ?_)
  refine take_at 0 (.agg #[.int .i64 r', .int .i64 s', .slice a3 L' c3', .bool cr', .bool ar', .int .i64 lf']) rfl (by kernel_rfl) (by kernel_rfl) (by kernel_rfl) (fun _ _ _ h => h) (yields_load (by rfl) 32 _ (by rfl) _ _ (by rfl) (GL.out)) (by assumption) ?_
  simp only [Act.put, List.setIfInBounds_toArray, List.set_cons_zero, List.set_cons_succ]
  refine take_at 1 (ev) rfl (by kernel_rfl) (by kernel_rfl) (by kernel_rfl) (fun _ _ _ h => h) (Or.inl ⟨by rfl, ?_⟩) (by assumption) ?_
  · intro V hSV; go_simp
  simp only [Act.put, List.setIfInBounds_toArray, List.set_cons_zero, List.set_cons_succ]
  refine take_at 3 (.int .i64 (nn : Int)) rfl (by kernel_rfl) (by kernel_rfl) (by kernel_rfl) (fun _ _ _ h => h) (Or.inl ⟨by rfl, ?_⟩) (by assumption) ?_
  · intro V hSV; go_simp
  simp only [Act.put, List.setIfInBounds_toArray, List.set_cons_zero, List.set_cons_succ]
  refine wpAnyH_ready (rs := [2]) (by kernel_rfl) (by simp) ?_
  refine AllReadyH.cons rfl (fun KK hK => ?_) AllReadyH.nil
  go_simp
  go_wp2_with (first | (go_at_call 11; refine (HNm.out _ (below_drew _)).mono ?_; rintro e V2 ⟨rfl, hb2⟩))
  refine hK.out _ _ ?_ (fun hHeld2 => ?_)
  · exact grown_below (by assumption) hb2
  clear hK KK
  refine take_at 4 (.bool true) rfl (by kernel_rfl) (by kernel_rfl) (by kernel_rfl) (fun _ _ _ h => h) (Or.inl ⟨by rfl, ?_⟩) (by assumption) ?_
  · intro V hSV; go_simp
  simp only [Act.put, List.setIfInBounds_toArray, List.set_cons_zero, List.set_cons_succ]

  have hB2 : Below V.heap.size V V2 := below_step (below_drew _) hb2
  have hfin := step_fin (w := w) (K := K) (cs := #[.int .i64 r', .int .i64 s', .slice a3 L' c3', .bool cr', .bool ar', .int .i64 lf']) (HE.out.1.on hB2) (HE.out.2.1.on hB2) (HE.out.2.2.1.trans (below_fd hB2 p aa bb)) (by omega) hlts ((hB2.block _ (blk_lt HE.out.2.2.2)).trans HE.out.2.2.2) (by omega) HP.out.kl
  have hst := store_rd (cs := #[.int .i64 r', .int .i64 s', .slice a3 L' c3', .bool cr', .bool ar', .int .i64 lf']) ((hB2.block _ (blk_lt HE.out.2.2.2)).trans HE.out.2.2.2) rfl rfl (six_one _ _ _ _ _ _ _ _)
  have hS : V.grownBy (V2.setRow (w.heap.size + 1 + 1 + 1) #[.int .i64 r', .int .i64 s', .slice a3 L' c3', .bool cr', .bool ar', .int .i64 lf']) (some (w.heap.size + 1 + 1 + 1)) := ⟨hHeld2.os, hHeld2.tape, hHeld2.output, by simpa [World.setRow] using hHeld2.size, fun k hk hne => (setRow_other V2 _ k _ (fun e => hne (by rw [e]))).trans (hHeld2.block k hk hne)⟩
  have HFin := Lib.hid hfin
  clear hfin hb2 hB2 GL HNm HE
  refine ready_store 5 rfl (by kernel_rfl) (by rfl) 32 _ _ (by rfl) _ _ (by rfl) (by rfl) hst hS ?_
  refine take_at 6 (.bool true) rfl (by kernel_rfl) (by kernel_rfl) (by kernel_rfl) (fun _ _ _ h => h) (Or.inl ⟨by rfl, ?_⟩) (by assumption) ?_
  · intro V hSV; go_simp
  simp only [Act.put, List.setIfInBounds_toArray, List.set_cons_zero, List.set_cons_succ]
  refine wpAnyH_done (by kernel_rfl) ?_ _
  refine NoPanic.normal ?_
  clear hst hS hHeld hHeld2
  generalize V2.setRow (w.heap.size + 1 + 1 + 1) #[.int .i64 r', .int .i64 s', .slice a3 L' c3', .bool cr', .bool ar', .int .i64 lf'] = V5 at *
  go_wp2_with fail
  refine bodyPost_ret (results_rd rfl _ _ (w.heap.size + 1 + 1 + 1) _ _ rfl rfl HFin.out.1 rfl) rfl ⟨_, ⟨r', s', l', cr', ar', lf'⟩, a3, c3', ?_, ?_, ?_, HFin.out.2.2.2, HTi.out⟩
  · show _ = Ending.returned (.tuple #[.agg (rdC _ _ _ _), _]); unfold rdC; dsimp only; rw [HL'.out]; rfl
  · exact HFin.out.2.1
  · exact HFin.out.2.2.1
set_option maxRecDepth 100000 in
set_option maxHeartbeats 8000000 in
theorem step2a_ {w0 w : World} {p aa bb : Nat} {d : Dev} {K : Nat} {x : RD} {ra : Option Addr} {rc : Nat} {a : Ar} {A : ActV} (h : StepIn w0 w p aa bb d K x ra rc a A) (hk : wrap64 ((IntKind.u64.wrap A.kind).tmod 5) = 2 ∧ IntKind.i64.wrap ((IntKind.u64.wrap A.kind).tmod 5) = 2) (hat : A.at' < 0) :
    Calls Tryz.prog 6 #[.pointer (some ⟨p, 0, none⟩), rdV x ra rc, arV a, actV A] w (StepTo w p aa bb K) := by
  obtain ⟨r, s, l, cr, ar, lf⟩ := x
  obtain ⟨kd, at', da, dxs, dc, ca, cs, cc⟩ := A
  have HP := Lib.hid h
  obtain ⟨ag, af, az⟩ := a
  unfold rdV rdC actV arV
  dsimp only at hk ⊢ hat
  generalize hn : dxs.length = n at *
  generalize hcn : cs.length = cn at *
  generalize hLn : l.length = L at *
  have HN := Lib.hid hn
  have HCN := Lib.hid hcn
  have HLN := Lib.hid hLn
  obtain ⟨W, hW⟩ : ∃ W, W = (((w.alloc (.cells #[.int .i64 r, .int .i64 s, .slice ra L rc, .bool cr, .bool ar, .int .i64 lf] 32)).alloc (.cells #[.int .i64 ag, .int .i64 af, .int .i64 az] 23)).alloc (.cells #[.int .i64 kd, .int .i64 at', .slice da n dc, .slice ca cn cc] 40)).alloc (.cells #[.int .i64 0, .int .i64 0, .slice none 0 0, .bool false, .bool false, .int .i64 0] 32) := ⟨_, rfl⟩
  have hBW : Below w.heap.size w W := by rw [hW]; exact below4w w _ _ _ _
  have hg4 : W.heap[w.heap.size]? = some (.cells #[.int .i64 r, .int .i64 s, .slice ra L rc, .bool cr, .bool ar, .int .i64 lf] 32 (0, 0)) := by rw [hW]; exact (heap4w w _ _ _ _).1
  have hgA : W.heap[w.heap.size + 1]? = some (.cells #[.int .i64 ag, .int .i64 af, .int .i64 az] 23 (0, 0)) := by rw [hW]; exact (heap4w w _ _ _ _).2.1
  have hg5 : W.heap[w.heap.size + 1 + 1]? = some (.cells #[.int .i64 kd, .int .i64 at', .slice da n dc, .slice ca cn cc] 40 (0, 0)) := by rw [hW]; exact (heap4w w _ _ _ _).2.2.1
  have hg6 : W.heap[w.heap.size + 1 + 1 + 1]? = some (.cells #[.int .i64 0, .int .i64 0, .slice none 0 0, .bool false, .bool false, .int .i64 0] 32 (0, 0)) := by rw [hW]; exact (heap4w w _ _ _ _).2.2.2
  have HBW := Lib.hid hBW
  have HG4 := Lib.hid hg4
  have HGA := Lib.hid hgA
  have HG5 := Lib.hid hg5
  have HG6 := Lib.hid hg6
  have HW := Lib.hid hW
  have HlW : Hid (W.heap.size = w.heap.size + 4) := by show _ = _; rw [hW]; simp
  clear h hn hcn hLn hBW hg4 hgA hg5 hg6 hW
  obtain ⟨hk1, hk2⟩ := hk
  go_enter Tryz.func6, Tryz.ntmps6
  go_wp2_with (first
    | (at_builtin; rw [← HW.out]; refine wpList_append_bytes _ rfl _ _ rfl W.heap.size _ [] dxs rfl (own_nil _ _) da n dc rfl HN.out HP.out.dn (HP.out.dat HBW.out) (by have := HP.out.dl; simp only [List.length_nil, Nat.zero_add]; exact Nat.le_trans this (by omega)) (Nat.le_refl _) ?_
       intro v1 w1 hown hgrow
       have hb1 := below_grow (Below.refl _ W) (own_nil W W.heap.size) hgrow
       have hown' : Own w1 W.heap.size v1 dxs := hown
       obtain ⟨ma, mc, rfl, hmi⟩ := mine_at hown'
       rw [HN.out]
       have HM := Lib.hid hmi
       have HB1 := Lib.hid hb1
       have HH4 := Lib.hid ((hb1.block _ (blk_lt HG4.out)).trans HG4.out)
       have HHA := Lib.hid ((hb1.block _ (blk_lt HGA.out)).trans HGA.out)
       have HH5 := Lib.hid ((hb1.block _ (blk_lt HG5.out)).trans HG5.out)
       have HH6 := Lib.hid ((hb1.block _ (blk_lt HG6.out)).trans HG6.out)
       obtain ⟨c0, c1, c2, c3, c4, c5⟩ := rd_cells HH4.out
       obtain ⟨a0, a1, a2⟩ := ArAtR.cells (a := ⟨ag, af, az⟩) HHA.out
       obtain ⟨e0, e1, e2, e3⟩ := act_cells HH5.out
       clear hown hgrow hb1 hown' hmi HG4 HGA HG5 HG6 HW)
    | fail)
  have HBw := Lib.hid (below_step HBW.out HB1.out)

  have HS : Hid (Calls Tryz.prog 19 #[.pointer (some ⟨p, 0, none⟩), .int .i64 at'] w1 fun e w' => e = .returned (errV 1) ∧ w' = w1) := arm_bad (some ⟨p, 0, none⟩) at' w1 (.inr hat)
  have k1 : decide (at' < 0) = true := decide_eq_true hat
  generalize hev : errV 1 = ev at *
  have HEV := Lib.hid hev
  clear hev hat
  go_wp2_with fail
  refine HS.out.mono ?_
  rintro e wq ⟨rfl, hwq⟩
  obtain rfl : w1 = wq := hwq.symm
  have hlts := HP.out.dev.lts
  have HQ6 := HH6
  have hVS := HH4.out
  have HTi : Hid (Tie d ⟨r, s, l, cr, ar, lf⟩ ∧ d.r = 2 ∧ d.s = 12) := ⟨HP.out.tie, HP.out.rs⟩

  have hne : w.heap.size ≠ w.heap.size + 1 + 1 + 1 := by have := blk_lt HQ6.out; omega
  have GL : Hid (∀ U, w1.grownBy U (some (w.heap.size + 1 + 1 + 1)) → (Instr.loadAt 32 (.pointer (some ⟨w.heap.size, 0, none⟩))).run Tryz.prog U = .ok (.agg #[.int .i64 r, .int .i64 s, .slice ra L rc, .bool cr, .bool ar, .int .i64 lf]) U) := fun U hU => load_rd ((hU.block _ (blk_lt hVS) (fun e => hne (by simpa using e))).trans hVS) rfl
  have HE : Hid (DevIn w1 p aa bb (d) K ∧ LstS w1 ra rc l ∧ Fd p aa bb w w1 ∧ w1.heap[w.heap.size + 1 + 1 + 1]? = some (.cells #[.int .i64 0, .int .i64 0, .slice none 0 0, .bool false, .bool false, .int .i64 0] 32 (0, 0))) := ⟨HP.out.dev.on HBw.out, HP.out.lst.on HBw.out, below_fd HBw.out p aa bb, HH6.out⟩
  have HNm : Hid (∀ U, Below w1.heap.size w1 U → Calls Tryz.prog 11 #[ev] U fun e w' => e = .returned (.int .i64 1) ∧ Below U.heap.size U w') := fun U hU => by
    rw [← HEV.out]
    exact num_ 1 U (HP.out.err.on (HP.out.bw.trans ((HE.out.2.2.1.below (N := w0.heap.size) HP.out.bw.size HP.out.lo.1 HP.out.lo.2.1 HP.out.lo.2.2).trans (hU.mono (Nat.le_trans HP.out.bw.size HE.out.2.2.1.size)))))
  clear hne hVS

  go_wp2_with fail
  refine wp_region_noPanic ?_
  refine wp_region_held_drew (S := fun U => w1.grownBy U (some (w.heap.size + 1 + 1 + 1))) (by kernel_rfl) (grown_drew _ _) (fun hHeld => ?_)
  refine take_at 0 (.agg #[.int .i64 r, .int .i64 s, .slice ra L rc, .bool cr, .bool ar, .int .i64 lf]) rfl (by kernel_rfl) (by kernel_rfl) (by kernel_rfl) (fun _ _ _ h => h) (yields_load (by rfl) 32 _ (by rfl) _ _ (by rfl) (GL.out)) (by assumption) ?_
  simp only [Act.put, List.setIfInBounds_toArray, List.set_cons_zero, List.set_cons_succ]
  refine take_at 1 (ev) rfl (by kernel_rfl) (by kernel_rfl) (by kernel_rfl) (fun _ _ _ h => h) (Or.inl ⟨by rfl, ?_⟩) (by assumption) ?_
  · intro V hSV; go_simp
  simp only [Act.put, List.setIfInBounds_toArray, List.set_cons_zero, List.set_cons_succ]
  refine wpAnyH_ready (rs := [2]) (by kernel_rfl) (by simp) ?_
  refine AllReadyH.cons rfl (fun KK hK => ?_) AllReadyH.nil
  go_simp
  go_wp2_with (first | (go_at_call 11; refine (HNm.out _ (below_drew _)).mono ?_; rintro e V2 ⟨rfl, hb2⟩))
  refine hK.out _ _ ?_ (fun hHeld2 => ?_)
  · exact grown_below (by assumption) hb2
  clear hK KK
  refine take_at 3 (.bool true) rfl (by kernel_rfl) (by kernel_rfl) (by kernel_rfl) (fun _ _ _ h => h) (Or.inl ⟨by rfl, ?_⟩) (by assumption) ?_
  · intro V hSV; go_simp
  simp only [Act.put, List.setIfInBounds_toArray, List.set_cons_zero, List.set_cons_succ]

  have hB2 : Below w1.heap.size w1 V2 := below_step (below_drew _) hb2
  have hfin := step_fin (w := w) (K := K) (cs := #[.int .i64 r, .int .i64 s, .slice ra L rc, .bool cr, .bool ar, .int .i64 lf]) (HE.out.1.on hB2) (HE.out.2.1.on hB2) (HE.out.2.2.1.trans (below_fd hB2 p aa bb)) (by omega) hlts ((hB2.block _ (blk_lt HE.out.2.2.2)).trans HE.out.2.2.2) (by omega) HP.out.kl
  have hst := store_rd (cs := #[.int .i64 r, .int .i64 s, .slice ra L rc, .bool cr, .bool ar, .int .i64 lf]) ((hB2.block _ (blk_lt HE.out.2.2.2)).trans HE.out.2.2.2) rfl rfl (six_one _ _ _ _ _ _ _ _)
  have hS : w1.grownBy (V2.setRow (w.heap.size + 1 + 1 + 1) #[.int .i64 r, .int .i64 s, .slice ra L rc, .bool cr, .bool ar, .int .i64 lf]) (some (w.heap.size + 1 + 1 + 1)) := ⟨hHeld2.os, hHeld2.tape, hHeld2.output, by simpa [World.setRow] using hHeld2.size, fun k hk hne => (setRow_other V2 _ k _ (fun e => hne (by rw [e]))).trans (hHeld2.block k hk hne)⟩
  have HFin := Lib.hid hfin
  clear hfin hb2 hB2 GL HNm HE
  refine ready_store 4 rfl (by kernel_rfl) (by rfl) 32 _ _ (by rfl) _ _ (by rfl) (by rfl) hst hS ?_
  refine take_at 5 (.bool true) rfl (by kernel_rfl) (by kernel_rfl) (by kernel_rfl) (fun _ _ _ h => h) (Or.inl ⟨by rfl, ?_⟩) (by assumption) ?_
  · intro V hSV; go_simp
  simp only [Act.put, List.setIfInBounds_toArray, List.set_cons_zero, List.set_cons_succ]
  refine wpAnyH_done (by kernel_rfl) ?_ _
  refine NoPanic.normal ?_
  clear hst hS hHeld hHeld2
  generalize V2.setRow (w.heap.size + 1 + 1 + 1) #[.int .i64 r, .int .i64 s, .slice ra L rc, .bool cr, .bool ar, .int .i64 lf] = V5 at *
  go_wp2_with fail
  refine bodyPost_ret (results_rd rfl _ _ (w.heap.size + 1 + 1 + 1) _ _ rfl rfl HFin.out.1 rfl) rfl ⟨_, ⟨r, s, l, cr, ar, lf⟩, ra, rc, ?_, ?_, ?_, HFin.out.2.2.2, HTi.out⟩
  · show _ = Ending.returned (.tuple #[.agg (rdC _ _ _ _), _]); unfold rdC; dsimp only; rw [HLN.out]; rfl
  · exact HFin.out.2.1
  · exact HFin.out.2.2.1
set_option maxRecDepth 100000 in
set_option maxHeartbeats 8000000 in
theorem step2b_ {w0 w : World} {p aa bb : Nat} {d : Dev} {K : Nat} {x : RD} {ra : Option Addr} {rc : Nat} {a : Ar} {A : ActV} (h : StepIn w0 w p aa bb d K x ra rc a A) (hk : wrap64 ((IntKind.u64.wrap A.kind).tmod 5) = 2 ∧ IntKind.i64.wrap ((IntKind.u64.wrap A.kind).tmod 5) = 2) (hat : 0 ≤ A.at' ∧ A.at' ≤ 9223372036854775807) :
    Calls Tryz.prog 6 #[.pointer (some ⟨p, 0, none⟩), rdV x ra rc, arV a, actV A] w (StepTo w p aa bb K) := by
  obtain ⟨r, s, l, cr, ar, lf⟩ := x
  obtain ⟨kd, at', da, dxs, dc, ca, cs, cc⟩ := A
  have HP := Lib.hid h
  obtain ⟨ag, af, az⟩ := a
  unfold rdV rdC actV arV
  dsimp only at hk ⊢ hat
  generalize hn : dxs.length = n at *
  generalize hcn : cs.length = cn at *
  generalize hLn : l.length = L at *
  have HN := Lib.hid hn
  have HCN := Lib.hid hcn
  have HLN := Lib.hid hLn
  obtain ⟨W, hW⟩ : ∃ W, W = (((w.alloc (.cells #[.int .i64 r, .int .i64 s, .slice ra L rc, .bool cr, .bool ar, .int .i64 lf] 32)).alloc (.cells #[.int .i64 ag, .int .i64 af, .int .i64 az] 23)).alloc (.cells #[.int .i64 kd, .int .i64 at', .slice da n dc, .slice ca cn cc] 40)).alloc (.cells #[.int .i64 0, .int .i64 0, .slice none 0 0, .bool false, .bool false, .int .i64 0] 32) := ⟨_, rfl⟩
  have hBW : Below w.heap.size w W := by rw [hW]; exact below4w w _ _ _ _
  have hg4 : W.heap[w.heap.size]? = some (.cells #[.int .i64 r, .int .i64 s, .slice ra L rc, .bool cr, .bool ar, .int .i64 lf] 32 (0, 0)) := by rw [hW]; exact (heap4w w _ _ _ _).1
  have hgA : W.heap[w.heap.size + 1]? = some (.cells #[.int .i64 ag, .int .i64 af, .int .i64 az] 23 (0, 0)) := by rw [hW]; exact (heap4w w _ _ _ _).2.1
  have hg5 : W.heap[w.heap.size + 1 + 1]? = some (.cells #[.int .i64 kd, .int .i64 at', .slice da n dc, .slice ca cn cc] 40 (0, 0)) := by rw [hW]; exact (heap4w w _ _ _ _).2.2.1
  have hg6 : W.heap[w.heap.size + 1 + 1 + 1]? = some (.cells #[.int .i64 0, .int .i64 0, .slice none 0 0, .bool false, .bool false, .int .i64 0] 32 (0, 0)) := by rw [hW]; exact (heap4w w _ _ _ _).2.2.2
  have HBW := Lib.hid hBW
  have HG4 := Lib.hid hg4
  have HGA := Lib.hid hgA
  have HG5 := Lib.hid hg5
  have HG6 := Lib.hid hg6
  have HW := Lib.hid hW
  have HlW : Hid (W.heap.size = w.heap.size + 4) := by show _ = _; rw [hW]; simp
  clear h hn hcn hLn hBW hg4 hgA hg5 hg6 hW
  obtain ⟨hk1, hk2⟩ := hk
  go_enter Tryz.func6, Tryz.ntmps6
  go_wp2_with (first
    | (at_builtin; rw [← HW.out]; refine wpList_append_bytes _ rfl _ _ rfl W.heap.size _ [] dxs rfl (own_nil _ _) da n dc rfl HN.out HP.out.dn (HP.out.dat HBW.out) (by have := HP.out.dl; simp only [List.length_nil, Nat.zero_add]; exact Nat.le_trans this (by omega)) (Nat.le_refl _) ?_
       intro v1 w1 hown hgrow
       have hb1 := below_grow (Below.refl _ W) (own_nil W W.heap.size) hgrow
       have hown' : Own w1 W.heap.size v1 dxs := hown
       obtain ⟨ma, mc, rfl, hmi⟩ := mine_at hown'
       rw [HN.out]
       have HM := Lib.hid hmi
       have HB1 := Lib.hid hb1
       have HH4 := Lib.hid ((hb1.block _ (blk_lt HG4.out)).trans HG4.out)
       have HHA := Lib.hid ((hb1.block _ (blk_lt HGA.out)).trans HGA.out)
       have HH5 := Lib.hid ((hb1.block _ (blk_lt HG5.out)).trans HG5.out)
       have HH6 := Lib.hid ((hb1.block _ (blk_lt HG6.out)).trans HG6.out)
       obtain ⟨c0, c1, c2, c3, c4, c5⟩ := rd_cells HH4.out
       obtain ⟨a0, a1, a2⟩ := ArAtR.cells (a := ⟨ag, af, az⟩) HHA.out
       obtain ⟨e0, e1, e2, e3⟩ := act_cells HH5.out
       clear hown hgrow hb1 hown' hmi HG4 HGA HG5 HG6 HW)
    | fail)
  have HBw := Lib.hid (below_step HBW.out HB1.out)

  have hD1 := HP.out.dev.on HBw.out
  have HS : Hid (Calls Tryz.prog 19 #[.pointer (some ⟨p, 0, none⟩), .int .i64 at'] w1 fun e w' => e = .returned .nilIface ∧ DevIn w' p aa bb { d with armed := true, left := at' } K ∧ Fd p aa bb w1 w') := arm_ hD1 at' hat.1 hat.2
  clear hD1

  have k1 : decide (at' < 0) = false := decide_eq_false (by omega)
  clear hat
  go_wp2_with fail
  refine HS.out.mono ?_
  rintro e w2 ⟨rfl, hD2, hf2⟩

  have hlts := HP.out.dev.lts
  have HF2 := Lib.hid ((below_fd HBw.out p aa bb).trans hf2)
  have hs1 := HB1.out.size
  have hs2 := hf2.size
  have hK4 := (hf2.block _ (blk_lt HH4.out) (by omega) (by omega) (by omega)).trans HH4.out
  have hKA := (hf2.block _ (blk_lt HHA.out) (by omega) (by omega) (by omega)).trans HHA.out
  have hK5 := (hf2.block _ (blk_lt HH5.out) (by omega) (by omega) (by omega)).trans HH5.out
  have hK6 := (hf2.block _ (blk_lt HH6.out) (by omega) (by omega) (by omega)).trans HH6.out
  have HK4 := Lib.hid hK4
  have HKA := Lib.hid hKA
  have HK5 := Lib.hid hK5
  have HK6 := Lib.hid hK6
  have HD2 := Lib.hid hD2
  clear c0 c1 c2 c3 c4 c5 a0 a1 a2 e0 e1 e2 e3
  obtain ⟨c0, c1, c2, c3, c4, c5⟩ := rd_cells hK4
  obtain ⟨a0, a1, a2⟩ := ArAtR.cells (a := ⟨ag, af, az⟩) hKA
  obtain ⟨e0, e1, e2, e3⟩ := act_cells hK5

  have hl2 := HP.out.lst.fd HP.out.dev HF2.out
  have b4 : w2.frozen? ⟨w.heap.size, 4, none⟩ = false := frozen_of hK4
  have b5 : w2.frozen? ⟨w.heap.size, 5, none⟩ = false := frozen_of hK4
  have HL2 := Lib.hid hl2
  have HTi : Hid (Tie { d with armed := true, left := at' } ⟨r, s, l, cr, true, at'⟩ ∧ d.r = 2 ∧ d.s = 12) := ⟨tie_armed HP.out.tie at', HP.out.rs⟩
  clear hf2 hK4 hKA hK5 hK6 hD2 HS hl2
  go_wp2_with fail
  go_region
  have hU4 := heap_set (o := 5) (.int .i64 at') (heap_set (o := 4) (.bool true) HK4.out)
  have hUf : ∀ k, k ≠ w.heap.size → (((w2.setCell ⟨w.heap.size, 4, none⟩ (.bool true)).setCell ⟨w.heap.size, 5, none⟩ (.int .i64 at')).drew).heap[k]? = w2.heap[k]? := fun k hk => (heap_far _ hk).trans (heap_far _ hk)
  have hFU : Fd p aa bb w (((w2.setCell ⟨w.heap.size, 4, none⟩ (.bool true)).setCell ⟨w.heap.size, 5, none⟩ (.int .i64 at')).drew) := (set_new (set_new HF2.out (Nat.le_refl _) _) (Nat.le_refl _) _).trans (below_fd (below_drew _) p aa bb)
  have HE : Hid (DevIn (((w2.setCell ⟨w.heap.size, 4, none⟩ (.bool true)).setCell ⟨w.heap.size, 5, none⟩ (.int .i64 at')).drew) p aa bb { d with armed := true, left := at' } K ∧ LstS (((w2.setCell ⟨w.heap.size, 4, none⟩ (.bool true)).setCell ⟨w.heap.size, 5, none⟩ (.int .i64 at')).drew) ra rc l ∧ Fd p aa bb w (((w2.setCell ⟨w.heap.size, 4, none⟩ (.bool true)).setCell ⟨w.heap.size, 5, none⟩ (.int .i64 at')).drew)) :=
    ⟨HD2.out.keep (hUf _ (by omega)) (hUf _ (by omega)) (hUf _ (by omega)), HL2.out.stay fun k q z hk => hUf k (fun e => by rw [e, HK4.out] at hk; simp only [Option.some.injEq, Obj.cells.injEq] at hk; exact absurd hk.2.1 (by decide)), hFU⟩
  have hU6 := (hUf _ (by omega)).trans HK6.out
  have hU4' : (((w2.setCell ⟨w.heap.size, 4, none⟩ (.bool true)).setCell ⟨w.heap.size, 5, none⟩ (.int .i64 at')).drew).heap[w.heap.size]? = some (.cells #[.int .i64 r, .int .i64 s, .slice ra L rc, .bool cr, .bool true, .int .i64 at'] 32 (0, 0)) := by
    show ((w2.setCell ⟨w.heap.size, 4, none⟩ (.bool true)).setCell ⟨w.heap.size, 5, none⟩ (.int .i64 at')).heap[w.heap.size]? = _
    simpa using hU4
  clear hU4 hUf hFU c0 c1 c2 c3 c4 c5 a0 a1 a2 e0 e1 e2 e3 b4 b5
  generalize (((w2.setCell ⟨w.heap.size, 4, none⟩ (.bool true)).setCell ⟨w.heap.size, 5, none⟩ (.int .i64 at')).drew) = U at *
  have HG6 := Lib.hid hU6
  obtain ⟨c0, c1, c2, c3, c4, c5⟩ := rd_cells hU4'
  obtain ⟨d0, d1, d2, d3, d4, d5⟩ := rd_cells hU6
  have F1 := Lib.hid (fun o => frozen_of (o := o) hU6)
  have f0 := F1.out 0
  have f1 := F1.out 1
  have f2 := F1.out 2
  have f3 := F1.out 3
  have f4 := F1.out 4
  have f5 := F1.out 5
  have HLO : Hid (p ≠ w.heap.size + 1 + 1 + 1 ∧ aa ≠ w.heap.size + 1 + 1 + 1 ∧ bb ≠ w.heap.size + 1 + 1 + 1) := by show _ ∧ _; omega
  clear hU4' hU6 F1
  go_wp2_with fail
  go_region
  go_wp2_with fail

  refine bodyPost_ret (results_rd rfl _ _ (w.heap.size + 1 + 1 + 1) _ _ rfl rfl (six_heap_d HG6.out _ _ _ _ _ _) rfl) rfl ⟨_, ⟨r, s, l, cr, true, at'⟩, ra, rc, ?_, ?_, ?_, ?_, HTi.out⟩
  · show _ = Ending.returned (.tuple #[.agg (rdC _ _ _ _), _]); unfold rdC; dsimp only; rw [HLN.out]; rfl
  · exact (HE.out.1.mono (Nat.le_add_right _ _) (by have := HP.out.kl; omega)).keep (six_far_d _ HLO.out.1 _ _ _ _ _ _) (six_far_d _ HLO.out.2.1 _ _ _ _ _ _) (six_far_d _ HLO.out.2.2 _ _ _ _ _ _)
  · exact HE.out.2.1.stay fun k q z hk => six_far_d _ (fun e => by rw [e, HG6.out] at hk; simp only [Option.some.injEq, Obj.cells.injEq] at hk; exact absurd hk.2.1 (by decide)) _ _ _ _ _ _
  · exact six_fd_d HE.out.2.2 (by omega) _ _ _ _ _ _
set_option maxRecDepth 100000 in
set_option maxHeartbeats 8000000 in
theorem step3_ {w0 w : World} {p aa bb : Nat} {d : Dev} {K : Nat} {x : RD} {ra : Option Addr} {rc : Nat} {a : Ar} {A : ActV} (h : StepIn w0 w p aa bb d K x ra rc a A) (hk : wrap64 ((IntKind.u64.wrap A.kind).tmod 5) = 3 ∧ IntKind.i64.wrap ((IntKind.u64.wrap A.kind).tmod 5) = 3) :
    Calls Tryz.prog 6 #[.pointer (some ⟨p, 0, none⟩), rdV x ra rc, arV a, actV A] w (StepTo w p aa bb K) := by
  obtain ⟨r, s, l, cr, ar, lf⟩ := x
  obtain ⟨kd, at', da, dxs, dc, ca, cs, cc⟩ := A
  have HP := Lib.hid h
  obtain ⟨ag, af, az⟩ := a
  unfold rdV rdC actV arV
  dsimp only at hk ⊢
  generalize hn : dxs.length = n at *
  generalize hcn : cs.length = cn at *
  generalize hLn : l.length = L at *
  have HN := Lib.hid hn
  have HCN := Lib.hid hcn
  have HLN := Lib.hid hLn
  obtain ⟨W, hW⟩ : ∃ W, W = (((w.alloc (.cells #[.int .i64 r, .int .i64 s, .slice ra L rc, .bool cr, .bool ar, .int .i64 lf] 32)).alloc (.cells #[.int .i64 ag, .int .i64 af, .int .i64 az] 23)).alloc (.cells #[.int .i64 kd, .int .i64 at', .slice da n dc, .slice ca cn cc] 40)).alloc (.cells #[.int .i64 0, .int .i64 0, .slice none 0 0, .bool false, .bool false, .int .i64 0] 32) := ⟨_, rfl⟩
  have hBW : Below w.heap.size w W := by rw [hW]; exact below4w w _ _ _ _
  have hg4 : W.heap[w.heap.size]? = some (.cells #[.int .i64 r, .int .i64 s, .slice ra L rc, .bool cr, .bool ar, .int .i64 lf] 32 (0, 0)) := by rw [hW]; exact (heap4w w _ _ _ _).1
  have hgA : W.heap[w.heap.size + 1]? = some (.cells #[.int .i64 ag, .int .i64 af, .int .i64 az] 23 (0, 0)) := by rw [hW]; exact (heap4w w _ _ _ _).2.1
  have hg5 : W.heap[w.heap.size + 1 + 1]? = some (.cells #[.int .i64 kd, .int .i64 at', .slice da n dc, .slice ca cn cc] 40 (0, 0)) := by rw [hW]; exact (heap4w w _ _ _ _).2.2.1
  have hg6 : W.heap[w.heap.size + 1 + 1 + 1]? = some (.cells #[.int .i64 0, .int .i64 0, .slice none 0 0, .bool false, .bool false, .int .i64 0] 32 (0, 0)) := by rw [hW]; exact (heap4w w _ _ _ _).2.2.2
  have HBW := Lib.hid hBW
  have HG4 := Lib.hid hg4
  have HGA := Lib.hid hgA
  have HG5 := Lib.hid hg5
  have HG6 := Lib.hid hg6
  have HW := Lib.hid hW
  have HlW : Hid (W.heap.size = w.heap.size + 4) := by show _ = _; rw [hW]; simp
  clear h hn hcn hLn hBW hg4 hgA hg5 hg6 hW
  obtain ⟨hk1, hk2⟩ := hk
  go_enter Tryz.func6, Tryz.ntmps6
  go_wp2_with (first
    | (at_builtin; rw [← HW.out]; refine wpList_append_bytes _ rfl _ _ rfl W.heap.size _ [] dxs rfl (own_nil _ _) da n dc rfl HN.out HP.out.dn (HP.out.dat HBW.out) (by have := HP.out.dl; simp only [List.length_nil, Nat.zero_add]; exact Nat.le_trans this (by omega)) (Nat.le_refl _) ?_
       intro v1 w1 hown hgrow
       have hb1 := below_grow (Below.refl _ W) (own_nil W W.heap.size) hgrow
       have hown' : Own w1 W.heap.size v1 dxs := hown
       obtain ⟨ma, mc, rfl, hmi⟩ := mine_at hown'
       rw [HN.out]
       have HM := Lib.hid hmi
       have HB1 := Lib.hid hb1
       have HH4 := Lib.hid ((hb1.block _ (blk_lt HG4.out)).trans HG4.out)
       have HHA := Lib.hid ((hb1.block _ (blk_lt HGA.out)).trans HGA.out)
       have HH5 := Lib.hid ((hb1.block _ (blk_lt HG5.out)).trans HG5.out)
       have HH6 := Lib.hid ((hb1.block _ (blk_lt HG6.out)).trans HG6.out)
       obtain ⟨c0, c1, c2, c3, c4, c5⟩ := rd_cells HH4.out
       obtain ⟨a0, a1, a2⟩ := ArAtR.cells (a := ⟨ag, af, az⟩) HHA.out
       obtain ⟨e0, e1, e2, e3⟩ := act_cells HH5.out
       clear hown hgrow hb1 hown' hmi HG4 HGA HG5 HG6 HW)
    | (at_builtin; refine wpList_append_ints _ rfl _ _ rfl rfl ca cs cn cc rfl HCN.out HP.out.cn (HP.out.ints0.on (HP.out.bw.trans ((below_step HBW.out HB1.out).mono HP.out.bw.size))) (by have := HP.out.cl; exact Nat.le_trans this (by omega)) ?_
       intro a5 c5' w5 hi5 hl5 hb5
       have H5 := Lib.hid (And.intro hi5 (And.intro hl5 hb5))
       clear hi5 hl5 hb5)
    | fail)
  have HBw := Lib.hid (below_step HBW.out HB1.out)

  have HRs : Hid (Calls Tryz.prog 20 #[.pointer (some ⟨p, 0, none⟩), .slice a5 cn c5'] w5 fun e w' => e = .returned (.tuple #[]) ∧ DevIn w' p aa bb (restartD d cs) K ∧ Fd p aa bb w5 w') :=
    restart_ (HP.out.dev.on (below_step HBw.out H5.out.2.2)) a5 cs cn c5' HCN.out H5.out.1 (fun b o e => by have := H5.out.2.1 b o e; have := HP.out.dev.lts.1; have := HBw.out.size; omega) (by have hcl : cs.length * 8 ≤ 140737488351232 := HP.out.cl; have := HCN.out; omega)
  refine HRs.out.mono ?_
  rintro e w2 ⟨rfl, hD2, hf5⟩
  have hf2 := (below_fd H5.out.2.2 p aa bb).trans hf5
  clear hf5

  have hlts := HP.out.dev.lts
  have HF2 := Lib.hid ((below_fd HBw.out p aa bb).trans hf2)
  have hs1 := HB1.out.size
  have hs2 := hf2.size
  have hK4 := (hf2.block _ (blk_lt HH4.out) (by omega) (by omega) (by omega)).trans HH4.out
  have hKA := (hf2.block _ (blk_lt HHA.out) (by omega) (by omega) (by omega)).trans HHA.out
  have hK5 := (hf2.block _ (blk_lt HH5.out) (by omega) (by omega) (by omega)).trans HH5.out
  have hK6 := (hf2.block _ (blk_lt HH6.out) (by omega) (by omega) (by omega)).trans HH6.out
  have HK4 := Lib.hid hK4
  have HKA := Lib.hid hKA
  have HK5 := Lib.hid hK5
  have HK6 := Lib.hid hK6
  have HD2 := Lib.hid hD2
  clear c0 c1 c2 c3 c4 c5 a0 a1 a2 e0 e1 e2 e3
  obtain ⟨c0, c1, c2, c3, c4, c5⟩ := rd_cells hK4
  obtain ⟨a0, a1, a2⟩ := ArAtR.cells (a := ⟨ag, af, az⟩) hKA
  obtain ⟨e0, e1, e2, e3⟩ := act_cells hK5

  have HI2 := Lib.hid (HP.out.ints0.on (HP.out.bw.trans (HF2.out.below (N := w0.heap.size) HP.out.bw.size HP.out.lo.1 HP.out.lo.2.1 HP.out.lo.2.2)))

  have HR : Hid (Calls Tryz.prog 21 #[.agg #[.int .i64 r, .int .i64 s, .slice ra L rc, .bool cr, .bool ar, .int .i64 lf], .slice ca cn cc] w2 fun e w' => (∃ a' c', e = .returned (rdV (restRD ⟨r, s, l, cr, ar, lf⟩ cs) a' c') ∧ LstS w' a' c' (restRD ⟨r, s, l, cr, ar, lf⟩ cs).l) ∧ Below w2.heap.size w2 w') := by
    have := rrestT (w := w2) (a := ra) (c := rc) ⟨r, s, l, cr, ar, lf⟩ d ca cs cn cc (HP.out.lst.fd HP.out.dev HF2.out) HP.out.tie HP.out.len HI2.out HCN.out
    unfold rdV rdC at this
    dsimp only at this
    rw [HLN.out] at this
    exact this

  clear hf2 hK4 hKA hK5 hK6 hD2 HRs hlts
  go_wp2_with fail
  refine HR.out.mono ?_
  rintro e w3 ⟨⟨a3, c3', rfl, hl3⟩, hb3⟩
  have HTi : Hid (Tie (restartD d cs) (restRD ⟨r, s, l, cr, ar, lf⟩ cs) ∧ (restartD d cs).r = 2 ∧ (restartD d cs).s = 12) := ⟨tie_rest HP.out.tie cs, HP.out.rs⟩
  generalize hX : restRD ⟨r, s, l, cr, ar, lf⟩ cs = X' at *
  obtain ⟨r', s', l', cr', ar', lf'⟩ := X'
  unfold rdV rdC
  dsimp only at hl3 ⊢
  generalize hL' : l'.length = L' at *
  have HL' := Lib.hid hL'
  have hlts := HP.out.dev.lts
  have hg6 := (hb3.block _ (blk_lt HK6.out)).trans HK6.out
  have HG6 := Lib.hid hg6
  obtain ⟨d0, d1, d2, d3, d4, d5⟩ := rd_cells hg6
  have F1 := Lib.hid (fun o => frozen_of (o := o) hg6)
  have f0 := F1.out 0
  have f1 := F1.out 1
  have f2 := F1.out 2
  have f3 := F1.out 3
  have f4 := F1.out 4
  have f5 := F1.out 5
  have HE : Hid (DevIn w3 p aa bb (restartD d cs) K ∧ LstS w3 a3 c3' l' ∧ Fd p aa bb w w3) := ⟨HD2.out.on hb3, hl3, HF2.out.trans (below_fd hb3 p aa bb)⟩
  have HLO : Hid (p ≠ w.heap.size + 1 + 1 + 1 ∧ aa ≠ w.heap.size + 1 + 1 + 1 ∧ bb ≠ w.heap.size + 1 + 1 + 1) := by show _ ∧ _; omega
  clear hX hL' hl3 hb3 hg6 F1 hlts c0 c1 c2 c3 c4 c5 a0 a1 a2 e0 e1 e2 e3 HR
  go_wp2_with fail

  refine bodyPost_ret (results_rd rfl _ _ (w.heap.size + 1 + 1 + 1) _ _ rfl rfl (six_heap HG6.out _ _ _ _ _ _) rfl) rfl ⟨_, ⟨r', s', l', cr', ar', lf'⟩, a3, c3', ?_, ?_, ?_, ?_, HTi.out⟩
  · show _ = Ending.returned (.tuple #[.agg (rdC _ _ _ _), _]); unfold rdC; dsimp only; rw [HL'.out]; rfl
  · exact (HE.out.1.mono (Nat.le_add_right _ _) (by have := HP.out.kl; omega)).keep (six_far _ HLO.out.1 _ _ _ _ _ _) (six_far _ HLO.out.2.1 _ _ _ _ _ _) (six_far _ HLO.out.2.2 _ _ _ _ _ _)
  · exact HE.out.2.1.stay fun k q z hk => six_far _ (fun e => by rw [e, HG6.out] at hk; simp only [Option.some.injEq, Obj.cells.injEq] at hk; exact absurd hk.2.1 (by decide)) _ _ _ _ _ _
  · exact six_fd HE.out.2.2 (by omega) _ _ _ _ _ _
set_option maxRecDepth 100000 in
set_option maxHeartbeats 8000000 in
theorem step4_ {w0 w : World} {p aa bb : Nat} {d : Dev} {K : Nat} {x : RD} {ra : Option Addr} {rc : Nat} {a : Ar} {A : ActV} (h : StepIn w0 w p aa bb d K x ra rc a A) (hk : wrap64 ((IntKind.u64.wrap A.kind).tmod 5) = 4 ∧ IntKind.i64.wrap ((IntKind.u64.wrap A.kind).tmod 5) = 4) :
    Calls Tryz.prog 6 #[.pointer (some ⟨p, 0, none⟩), rdV x ra rc, arV a, actV A] w (StepTo w p aa bb K) := by
  obtain ⟨r, s, l, cr, ar, lf⟩ := x
  obtain ⟨kd, at', da, dxs, dc, ca, cs, cc⟩ := A
  have HP := Lib.hid h
  obtain ⟨ag, af, az⟩ := a
  unfold rdV rdC actV arV
  dsimp only at hk ⊢
  generalize hn : dxs.length = n at *
  generalize hcn : cs.length = cn at *
  generalize hLn : l.length = L at *
  have HN := Lib.hid hn
  have HCN := Lib.hid hcn
  have HLN := Lib.hid hLn
  obtain ⟨W, hW⟩ : ∃ W, W = (((w.alloc (.cells #[.int .i64 r, .int .i64 s, .slice ra L rc, .bool cr, .bool ar, .int .i64 lf] 32)).alloc (.cells #[.int .i64 ag, .int .i64 af, .int .i64 az] 23)).alloc (.cells #[.int .i64 kd, .int .i64 at', .slice da n dc, .slice ca cn cc] 40)).alloc (.cells #[.int .i64 0, .int .i64 0, .slice none 0 0, .bool false, .bool false, .int .i64 0] 32) := ⟨_, rfl⟩
  have hBW : Below w.heap.size w W := by rw [hW]; exact below4w w _ _ _ _
  have hg4 : W.heap[w.heap.size]? = some (.cells #[.int .i64 r, .int .i64 s, .slice ra L rc, .bool cr, .bool ar, .int .i64 lf] 32 (0, 0)) := by rw [hW]; exact (heap4w w _ _ _ _).1
  have hgA : W.heap[w.heap.size + 1]? = some (.cells #[.int .i64 ag, .int .i64 af, .int .i64 az] 23 (0, 0)) := by rw [hW]; exact (heap4w w _ _ _ _).2.1
  have hg5 : W.heap[w.heap.size + 1 + 1]? = some (.cells #[.int .i64 kd, .int .i64 at', .slice da n dc, .slice ca cn cc] 40 (0, 0)) := by rw [hW]; exact (heap4w w _ _ _ _).2.2.1
  have hg6 : W.heap[w.heap.size + 1 + 1 + 1]? = some (.cells #[.int .i64 0, .int .i64 0, .slice none 0 0, .bool false, .bool false, .int .i64 0] 32 (0, 0)) := by rw [hW]; exact (heap4w w _ _ _ _).2.2.2
  have HBW := Lib.hid hBW
  have HG4 := Lib.hid hg4
  have HGA := Lib.hid hgA
  have HG5 := Lib.hid hg5
  have HG6 := Lib.hid hg6
  have HW := Lib.hid hW
  have HlW : Hid (W.heap.size = w.heap.size + 4) := by show _ = _; rw [hW]; simp
  clear h hn hcn hLn hBW hg4 hgA hg5 hg6 hW
  obtain ⟨hk1, hk2⟩ := hk
  go_enter Tryz.func6, Tryz.ntmps6
  go_wp2_with (first
    | (at_builtin; rw [← HW.out]; refine wpList_append_bytes _ rfl _ _ rfl W.heap.size _ [] dxs rfl (own_nil _ _) da n dc rfl HN.out HP.out.dn (HP.out.dat HBW.out) (by have := HP.out.dl; simp only [List.length_nil, Nat.zero_add]; exact Nat.le_trans this (by omega)) (Nat.le_refl _) ?_
       intro v1 w1 hown hgrow
       have hb1 := below_grow (Below.refl _ W) (own_nil W W.heap.size) hgrow
       have hown' : Own w1 W.heap.size v1 dxs := hown
       obtain ⟨ma, mc, rfl, hmi⟩ := mine_at hown'
       rw [HN.out]
       have HM := Lib.hid hmi
       have HB1 := Lib.hid hb1
       have HH4 := Lib.hid ((hb1.block _ (blk_lt HG4.out)).trans HG4.out)
       have HHA := Lib.hid ((hb1.block _ (blk_lt HGA.out)).trans HGA.out)
       have HH5 := Lib.hid ((hb1.block _ (blk_lt HG5.out)).trans HG5.out)
       have HH6 := Lib.hid ((hb1.block _ (blk_lt HG6.out)).trans HG6.out)
       obtain ⟨c0, c1, c2, c3, c4, c5⟩ := rd_cells HH4.out
       obtain ⟨a0, a1, a2⟩ := ArAtR.cells (a := ⟨ag, af, az⟩) HHA.out
       obtain ⟨e0, e1, e2, e3⟩ := act_cells HH5.out
       clear hown hgrow hb1 hown' hmi HG4 HGA HG5 HG6 HW)
    | fail)
  have HBw := Lib.hid (below_step HBW.out HB1.out)

  have hD1 := HP.out.dev.on HBw.out
  have HS : Hid (Calls Tryz.prog 22 #[.pointer (some ⟨p, 0, none⟩), .int .i64 ag] w1 fun e w' => e = .returned (errV (sErr d ag)) ∧ DevIn w' p aa bb (syncD d ag) K ∧ Fd p aa bb w1 w') := sync_ hD1 ag
  clear hD1

  go_wp2_with fail
  refine HS.out.mono ?_
  rintro e w2 ⟨rfl, hD2, hf2⟩

  have hlts := HP.out.dev.lts
  have HF2 := Lib.hid ((below_fd HBw.out p aa bb).trans hf2)
  have hs1 := HB1.out.size
  have hs2 := hf2.size
  have hK4 := (hf2.block _ (blk_lt HH4.out) (by omega) (by omega) (by omega)).trans HH4.out
  have hKA := (hf2.block _ (blk_lt HHA.out) (by omega) (by omega) (by omega)).trans HHA.out
  have hK5 := (hf2.block _ (blk_lt HH5.out) (by omega) (by omega) (by omega)).trans HH5.out
  have hK6 := (hf2.block _ (blk_lt HH6.out) (by omega) (by omega) (by omega)).trans HH6.out
  have HK4 := Lib.hid hK4
  have HKA := Lib.hid hKA
  have HK5 := Lib.hid hK5
  have HK6 := Lib.hid hK6
  have HD2 := Lib.hid hD2
  clear c0 c1 c2 c3 c4 c5 a0 a1 a2 e0 e1 e2 e3
  obtain ⟨c0, c1, c2, c3, c4, c5⟩ := rd_cells hK4
  obtain ⟨a0, a1, a2⟩ := ArAtR.cells (a := ⟨ag, af, az⟩) hKA
  obtain ⟨e0, e1, e2, e3⟩ := act_cells hK5

  have HR : Hid (Calls Tryz.prog 23 #[.agg #[.int .i64 r, .int .i64 s, .slice ra L rc, .bool cr, .bool ar, .int .i64 lf], .int .i64 ag] w2 fun e w' => (∃ a' c', e = .returned (.tuple #[rdV (syncRD ⟨r, s, l, cr, ar, lf⟩ d ag) a' c', .int .i64 (sErr d ag : Nat)]) ∧ LstS w' a' c' (syncRD ⟨r, s, l, cr, ar, lf⟩ d ag).l) ∧ Below w2.heap.size w2 w') := by
    have := rsyncT (w := w2) (a := ra) (c := rc) ⟨r, s, l, cr, ar, lf⟩ d ag (HP.out.lst.fd HP.out.dev HF2.out) HP.out.tie HP.out.dev.lim.2.2.1 HP.out.len
    unfold rdV rdC at this
    dsimp only at this
    rw [HLN.out] at this
    exact this

  clear hf2 hK4 hKA hK5 hK6 hD2 HS hlts
  go_wp2_with fail
  refine HR.out.mono ?_
  rintro e w3 ⟨⟨a3, c3', rfl, hl3⟩, hb3⟩
  have HTi : Hid (Tie (syncD d ag) (syncRD ⟨r, s, l, cr, ar, lf⟩ d ag) ∧ (syncD d ag).r = 2 ∧ (syncD d ag).s = 12) := ⟨tie_sync HP.out.tie ag, (size_sync d ag).1.trans HP.out.rs.1, (size_sync d ag).2.trans HP.out.rs.2⟩

  have HQ6 := Lib.hid ((hb3.block _ (blk_lt HK6.out)).trans HK6.out)
  have HF3 := Lib.hid (HF2.out.trans (below_fd hb3 p aa bb))
  have HD3 := Lib.hid (HD2.out.on hb3)
  generalize hX : syncRD ⟨r, s, l, cr, ar, lf⟩ d ag = X' at *
  obtain ⟨r', s', l', cr', ar', lf'⟩ := X'
  unfold rdV rdC
  dsimp only at hl3 ⊢
  generalize hL' : l'.length = L' at *
  have HL' := Lib.hid hL'
  have HL3 := Lib.hid hl3
  generalize hev : errV (sErr d ag) = ev at *
  generalize hnn : sErr d ag = nn at *
  have HEV := Lib.hid hev
  clear hX hL' hl3 hb3 hev hnn

  have hlts := HP.out.dev.lts
  obtain ⟨V, hV⟩ : ∃ V, V = w3.alloc (.cells #[.int .i64 r', .int .i64 s', .slice a3 L' c3', .bool cr', .bool ar', .int .i64 lf'] 32) := ⟨_, rfl⟩
  have hV3 : V.heap[w3.heap.size]? = some (.cells #[.int .i64 r', .int .i64 s', .slice a3 L' c3', .bool cr', .bool ar', .int .i64 lf'] 32 (0, 0)) := by rw [hV]; exact alloc_at w3 _
  have hBV : Below w3.heap.size w3 V := by rw [hV]; exact below_alloc w3 _
  have HV := Lib.hid hV
  have hg6 := (hBV.block _ (blk_lt HQ6.out)).trans HQ6.out
  clear hV
  have hVS := hV3

  have hne : w3.heap.size ≠ w.heap.size + 1 + 1 + 1 := by have := blk_lt HQ6.out; omega
  have GL : Hid (∀ U, V.grownBy U (some (w.heap.size + 1 + 1 + 1)) → (Instr.loadAt 32 (.pointer (some ⟨w3.heap.size, 0, none⟩))).run Tryz.prog U = .ok (.agg #[.int .i64 r', .int .i64 s', .slice a3 L' c3', .bool cr', .bool ar', .int .i64 lf']) U) := fun U hU => load_rd ((hU.block _ (blk_lt hVS) (fun e => hne (by simpa using e))).trans hVS) rfl
  have HE : Hid (DevIn V p aa bb (syncD d ag) K ∧ LstS V a3 c3' l' ∧ Fd p aa bb w V ∧ V.heap[w.heap.size + 1 + 1 + 1]? = some (.cells #[.int .i64 0, .int .i64 0, .slice none 0 0, .bool false, .bool false, .int .i64 0] 32 (0, 0))) := ⟨HD3.out.on hBV, HL3.out.on hBV, HF3.out.trans (below_fd hBV p aa bb), hg6⟩
  have HNm : Hid (∀ U, Below V.heap.size V U → Calls Tryz.prog 11 #[ev] U fun e w' => e = .returned (.int .i64 (nn : Int)) ∧ Below U.heap.size U w') := fun U hU => by
    rw [← HEV.out]
    exact num_ nn U (HP.out.err.on (HP.out.bw.trans ((HE.out.2.2.1.below (N := w0.heap.size) HP.out.bw.size HP.out.lo.1 HP.out.lo.2.1 HP.out.lo.2.2).trans (hU.mono (Nat.le_trans HP.out.bw.size HE.out.2.2.1.size)))))
  clear hne hVS

  clear hBV hg6 hV3
  go_wp2_with fail
  rw [← HV.out]
  clear HV

  refine wp_region_noPanic ?_
  refine wp_region_held_drew (S := fun U => V.grownBy U (some (w.heap.size + 1 + 1 + 1))) (by kernel_rfl) (grown_drew _ _) (fun hHeld => ?_)
  refine take_at 0 (.agg #[.int .i64 r', .int .i64 s', .slice a3 L' c3', .bool cr', .bool ar', .int .i64 lf']) rfl (by kernel_rfl) (by kernel_rfl) (by kernel_rfl) (fun _ _ _ h => h) (yields_load (by rfl) 32 _ (by rfl) _ _ (by rfl) (GL.out)) (by assumption) ?_
  simp only [Act.put, List.setIfInBounds_toArray, List.set_cons_zero, List.set_cons_succ]
  refine take_at 1 (ev) rfl (by kernel_rfl) (by kernel_rfl) (by kernel_rfl) (fun _ _ _ h => h) (Or.inl ⟨by rfl, ?_⟩) (by assumption) ?_
  · intro V hSV; go_simp
  simp only [Act.put, List.setIfInBounds_toArray, List.set_cons_zero, List.set_cons_succ]
  refine take_at 3 (.int .i64 (nn : Int)) rfl (by kernel_rfl) (by kernel_rfl) (by kernel_rfl) (fun _ _ _ h => h) (Or.inl ⟨by rfl, ?_⟩) (by assumption) ?_
  · intro V hSV; go_simp
  simp only [Act.put, List.setIfInBounds_toArray, List.set_cons_zero, List.set_cons_succ]
  refine wpAnyH_ready (rs := [2]) (by kernel_rfl) (by simp) ?_
  refine AllReadyH.cons rfl (fun KK hK => ?_) AllReadyH.nil
  go_simp
  go_wp2_with (first | (go_at_call 11; refine (HNm.out _ (below_drew _)).mono ?_; rintro e V2 ⟨rfl, hb2⟩))
  refine hK.out _ _ ?_ (fun hHeld2 => ?_)
  · exact grown_below (by assumption) hb2
  clear hK KK
  refine take_at 4 (.bool true) rfl (by kernel_rfl) (by kernel_rfl) (by kernel_rfl) (fun _ _ _ h => h) (Or.inl ⟨by rfl, ?_⟩) (by assumption) ?_
  · intro V hSV; go_simp
  simp only [Act.put, List.setIfInBounds_toArray, List.set_cons_zero, List.set_cons_succ]

  have hB2 : Below V.heap.size V V2 := below_step (below_drew _) hb2
  have hfin := step_fin (w := w) (K := K) (cs := #[.int .i64 r', .int .i64 s', .slice a3 L' c3', .bool cr', .bool ar', .int .i64 lf']) (HE.out.1.on hB2) (HE.out.2.1.on hB2) (HE.out.2.2.1.trans (below_fd hB2 p aa bb)) (by omega) hlts ((hB2.block _ (blk_lt HE.out.2.2.2)).trans HE.out.2.2.2) (by omega) HP.out.kl
  have hst := store_rd (cs := #[.int .i64 r', .int .i64 s', .slice a3 L' c3', .bool cr', .bool ar', .int .i64 lf']) ((hB2.block _ (blk_lt HE.out.2.2.2)).trans HE.out.2.2.2) rfl rfl (six_one _ _ _ _ _ _ _ _)
  have hS : V.grownBy (V2.setRow (w.heap.size + 1 + 1 + 1) #[.int .i64 r', .int .i64 s', .slice a3 L' c3', .bool cr', .bool ar', .int .i64 lf']) (some (w.heap.size + 1 + 1 + 1)) := ⟨hHeld2.os, hHeld2.tape, hHeld2.output, by simpa [World.setRow] using hHeld2.size, fun k hk hne => (setRow_other V2 _ k _ (fun e => hne (by rw [e]))).trans (hHeld2.block k hk hne)⟩
  have HFin := Lib.hid hfin
  clear hfin hb2 hB2 GL HNm HE
  refine ready_store 5 rfl (by kernel_rfl) (by rfl) 32 _ _ (by rfl) _ _ (by rfl) (by rfl) hst hS ?_
  refine take_at 6 (.bool true) rfl (by kernel_rfl) (by kernel_rfl) (by kernel_rfl) (fun _ _ _ h => h) (Or.inl ⟨by rfl, ?_⟩) (by assumption) ?_
  · intro V hSV; go_simp
  simp only [Act.put, List.setIfInBounds_toArray, List.set_cons_zero, List.set_cons_succ]
  refine wpAnyH_done (by kernel_rfl) ?_ _
  refine NoPanic.normal ?_
  clear hst hS hHeld hHeld2
  generalize V2.setRow (w.heap.size + 1 + 1 + 1) #[.int .i64 r', .int .i64 s', .slice a3 L' c3', .bool cr', .bool ar', .int .i64 lf'] = V5 at *
  go_wp2_with fail
  refine bodyPost_ret (results_rd rfl _ _ (w.heap.size + 1 + 1 + 1) _ _ rfl rfl HFin.out.1 rfl) rfl ⟨_, ⟨r', s', l', cr', ar', lf'⟩, a3, c3', ?_, ?_, ?_, HFin.out.2.2.2, HTi.out⟩
  · show _ = Ending.returned (.tuple #[.agg (rdC _ _ _ _), _]); unfold rdC; dsimp only; rw [HL'.out]; rfl
  · exact HFin.out.2.1
  · exact HFin.out.2.2.1
end Go.Proofs.YthaihallfjjnpaaGreatDoor
