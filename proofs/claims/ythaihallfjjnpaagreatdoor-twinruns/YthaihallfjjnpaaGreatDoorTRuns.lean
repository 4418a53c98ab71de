/- The walk of the law TwinRuns. -/
import Derived.Test.YthaihallfjjnpaaGreatDoorTRuns0
namespace Go.Proofs.YthaihallfjjnpaaGreatDoor
open Go.RowKit Go.Sort Go.Maps

set_option maxRecDepth 100000 in
set_option maxHeartbeats 8000000 in
theorem runs9_law (a : Ar) (la : Option Addr) (n c : Nat) (f : Nat → ActV) (w : World) (har : inR a) (hin : ActsAt w la n f) (hlim : ∀ i, i < n → (f i).dxs.length ≤ 140737488351232 ∧ (f i).cs.length * 8 ≤ 140737488351232) (hE : ErrType w) :
    Calls Tryz.prog 3 #[arV a, .slice la n c] w fun e w' => e = .returned (.bool true) ∧ Below w.heap.size w w' := by
  obtain ⟨ag, af, az⟩ := a
  unfold arV
  dsimp only
  obtain ⟨W, hW⟩ : ∃ W, W = w.alloc (.cells #[.int .i64 ag, .int .i64 af, .int .i64 az] 23) := ⟨_, rfl⟩
  have HB : Hid (Below w.heap.size w W) := by rw [hW]; exact below_alloc w _
  have hg := alloc_at w (.cells #[.int .i64 ag, .int .i64 af, .int .i64 az] 23)
  rw [← hW] at hg
  have HG := Lib.hid hg
  have HW := Lib.hid hW
  have HN := Lib.hid (new_x 2 12 W (by omega))
  have HR : Hid (∀ V : World, Calls Tryz.prog 5 #[.int .i64 2, .int .i64 12] V fun e w' => e = .returned (.tuple #[rdV (newR 2 12) none 0, .int .i64 0]) ∧ Below V.heap.size V w') := fun V => rnew_ 2 12 V (by omega)
  have HE := Lib.hid hE
  have HI := Lib.hid hin
  have HLm := Lib.hid hlim
  have HAr := Lib.hid har
  clear hW hg hE hin hlim har
  go_enter Tryz.func3, Tryz.ntmps3
  go_wp2_with fail
  rw [← HW.out]
  refine HN.out.mono ?_
  rintro e w1 ⟨p, aa, bb, rfl, hlo, hb1, hd1⟩
  have hsW := HB.out.size
  have hg1 := (hb1.block _ (blk_lt HG.out)).trans HG.out
  have HG1 := Lib.hid hg1
  have HB1 := Lib.hid (below_step HB.out hb1)
  have HD1 := Lib.hid hd1
  have hpw : w.heap.size ≤ p ∧ w.heap.size ≤ aa ∧ w.heap.size ≤ bb := by omega
  clear HN hd1 hb1 hg1 HB HG HW hlo
  go_wp2_with fail
  refine (HR.out w1).mono ?_
  rintro e w2 ⟨rfl, hb2⟩
  unfold rdV rdC newR
  dsimp only [List.length_nil]
  obtain ⟨V, hV⟩ : ∃ V, V = w2.alloc (.cells #[.int .i64 2, .int .i64 12, .slice none 0 0, .bool false, .bool false, .int .i64 0] 32) := ⟨_, rfl⟩
  obtain ⟨B7, hB7⟩ : ∃ B7, B7 = w2.heap.size := ⟨_, rfl⟩
  have hV7 : V.heap[B7]? = some (.cells #[.int .i64 2, .int .i64 12, .slice none 0 0, .bool false, .bool false, .int .i64 0] 32 (0, 0)) := by rw [hV, hB7]; exact alloc_at w2 _
  have hBV : Below w2.heap.size w2 V := by rw [hV]; exact below_alloc w2 _
  have hb12 := below_step hb2 hBV
  have H1 : Hid (Run9 w (⟨ag, af, az⟩ : Ar) B7 p aa bb 0 V) := ⟨_, newR 2 12, none, 0, HD1.out.on hb12, hV7, lstS_nil _, tie_new 2 12, ⟨rfl, rfl⟩, (hb12.block _ (blk_lt HG1.out)).trans HG1.out, below_step HB1.out hb12⟩
  have HV := Lib.hid hV
  have HB7 := Lib.hid hB7
  have hwB : w.heap.size < B7 := by rw [hB7]; have := blk_lt HG1.out; have := hb2.size; omega
  clear hb2 hV hB7 hV7 hBV hb12 HR HD1 HB1 HG1 hsW
  go_wp2_with fail
  rw [← HV.out, ← HB7.out]
  clear HV HB7
  go_loopw [9] (fun iv wr => ∃ i : Nat, iv = .int .i64 i ∧ i ≤ n ∧ i ≤ 40 ∧ Hid (Run9 w (⟨ag, af, az⟩ : Ar) B7 p aa bb i wr)) (fun iv _ => 40 - (intOf iv).toNat)
  case atStart => exact ⟨0, rfl, by omega, by omega, H1⟩
  case round =>
    obtain ⟨i, rfl, hin, hi40, HS⟩ := hrel
    by_cases hgo : i < n ∧ i < 40
    · have q1 : decide ((i : Int) < (n : Int)) = true := decide_eq_true (by omega)
      have q2 : decide ((i : Int) < 40) = true := decide_eq_true (by omega)
      have q3 : (0 : Int) ≤ (i : Int) := by omega
      have q4 : (i : Int) < (n : Int) := by omega
      obtain ⟨d, x, ra, rc, hd, hg7, hls, htie, hrs, hgA, hb⟩ := HS.out
      obtain ⟨b, o, hab, hx⟩ := HI.out i hgo.1
      subst hab
      have hx' := hx.on hb
      have hbw : b < w.heap.size := block_lt_of_cell hx.c0
      have hlm := HLm.out i hgo.1
      have hst : ∀ V, Below wr.heap.size wr V → Calls Tryz.prog 6 #[.pointer (some ⟨p, 0, none⟩), rdV x ra rc, arV (⟨ag, af, az⟩ : Ar), actV (f i)] V (StepTo V p aa bb (8193 * i)) := fun V hV => step_ (w0 := w) ⟨hd.on hV, hls.on hV, htie, hrs, by omega, HAr.out, below_step hb hV, ⟨by omega, by omega, by omega⟩, HE.out, hx.data, hx.dn, hx.byte, hlm.1, hx.ints, hx.cn, hlm.2⟩ hx.ai
      have HSt := Lib.hid hst
      have hne := dev_ne hd hg7 (by decide)
      have hne2 := dev_ne hd hgA (by decide)
      obtain ⟨a0, a1, a2⟩ := ArAtR.cells hgA
      dsimp only at a0 a1 a2
      have F0 : Hid (∀ V, Fd p aa bb wr V → V.cell? ⟨b, o + i * 4, none⟩ = some (.int .i64 (f i).kind)) := fun V hV => hV.cell hd hx'.c0 (by omega)
      have F1 : Hid (∀ V, Fd p aa bb wr V → V.cell? ⟨b, o + i * 4 + 1, none⟩ = some (.int .i64 (f i).at')) := fun V hV => hV.cell hd hx'.c1 (by omega)
      have F2 : Hid (∀ V, Fd p aa bb wr V → V.cell? ⟨b, o + i * 4 + 2, none⟩ = some (.slice (f i).da (f i).dxs.length (f i).dc)) := fun V hV => hV.cell hd hx'.c2 (by omega)
      have F3 : Hid (∀ V, Fd p aa bb wr V → V.cell? ⟨b, o + i * 4 + 3, none⟩ = some (.slice (f i).ca (f i).cs.length (f i).cc)) := fun V hV => hV.cell hd hx'.c3 (by omega)
      have G0 : Hid (∀ V, Fd p aa bb wr V → V.cell? ⟨w.heap.size, 0, none⟩ = some (.int .i64 ag)) := fun V hV => hV.cell hd a0 hne2.1
      have G1 : Hid (∀ V, Fd p aa bb wr V → V.cell? ⟨w.heap.size, 1, none⟩ = some (.int .i64 af)) := fun V hV => hV.cell hd a1 hne2.1
      have G2 : Hid (∀ V, Fd p aa bb wr V → V.cell? ⟨w.heap.size, 2, none⟩ = some (.int .i64 az)) := fun V hV => hV.cell hd a2 hne2.1
      unfold actV at HSt
      have HX : Hid ((d.r = 2 ∧ d.s = 12) ∧ ArAtR wr w.heap.size (⟨ag, af, az⟩ : Ar) ∧ Below w.heap.size w wr ∧ (B7 ≠ p ∧ B7 ≠ aa ∧ B7 ≠ bb) ∧ (w.heap.size ≠ p ∧ w.heap.size ≠ aa ∧ w.heap.size ≠ bb) ∧ B7 < wr.heap.size) := ⟨hrs, hgA, hb, hne, hne2, blk_lt hg7⟩
      have HG7 := Lib.hid hg7
      obtain ⟨r, s, l, cr, ar, lf⟩ := x
      unfold rdC at HG7
      unfold rdV rdC arV at HSt
      dsimp only at HG7 HSt HX
      have GL : Hid (∀ U, Fd p aa bb wr U → (Instr.loadAt 32 (.pointer (some ⟨B7, 0, none⟩))).run Tryz.prog U = .ok (.agg #[.int .i64 r, .int .i64 s, .slice ra l.length rc, .bool cr, .bool ar, .int .i64 lf]) U) := fun U hU => load_rd ((hU.block _ (blk_lt HG7.out) HX.out.2.2.2.1.1 HX.out.2.2.2.1.2.1 HX.out.2.2.2.1.2.2).trans HG7.out) rfl
      generalize (f i).kind = kd at *
      generalize (f i).at' = at' at *
      generalize (f i).da = da at *
      generalize (f i).dxs.length = dn at *
      generalize (f i).dc = dc at *
      generalize (f i).ca = ca at *
      generalize (f i).cs.length = cn at *
      generalize (f i).cc = cc at *
      generalize hLl : l.length = L at *
      clear hLl
      have HX2 : Hid (∀ k, wr.heap.size ≤ k → k ≠ p ∧ k ≠ aa ∧ k ≠ bb) := fun k hk => by have := hd.lts; omega
      clear hd hg7 hls htie hrs hgA hb hx hx' hst hlm HS hne hne2 a0 a1 a2
      go_wp2_with fail
      refine wp_region_noPanic ?_
      refine wp_region_held_drew (S := fun V => Fd p aa bb wr V) (by kernel_rfl) (below_fd (below_drew _) _ _ _) (fun hHeld => ?_)
      refine take_at 0 (.pointer (some ⟨p, 0, none⟩)) rfl (by kernel_rfl) (by kernel_rfl) (by kernel_rfl) (fun _ _ _ h => h) (Or.inl ⟨by rfl, ?_⟩) (by assumption) ?_
      · intro V hSV; go_simp
      simp only [Act.put, List.setIfInBounds_toArray, List.set_cons_zero, List.set_cons_succ]
      refine take_at 1 (.agg #[.int .i64 r, .int .i64 s, .slice ra L rc, .bool cr, .bool ar, .int .i64 lf]) rfl (by kernel_rfl) (by kernel_rfl) (by kernel_rfl) (fun _ _ _ h => h) (yields_load (by rfl) 32 _ (by rfl) _ _ (by rfl) (GL.out)) (by assumption) ?_
      simp only [Act.put, List.setIfInBounds_toArray, List.set_cons_zero, List.set_cons_succ]
      refine take_at 2 (.agg #[.int .i64 ag, .int .i64 af, .int .i64 az]) rfl (by kernel_rfl) (by kernel_rfl) (by kernel_rfl) (fun _ _ _ h => h) (Or.inl ⟨by rfl, ?_⟩) (by assumption) ?_
      · intro V hSV; have e0 := G0.out V hSV; have e1 := G1.out V hSV; have e2 := G2.out V hSV; go_simp
      simp only [Act.put, List.setIfInBounds_toArray, List.set_cons_zero, List.set_cons_succ]
      refine take_at 3 (.slice (some ⟨b, o, none⟩) n c) rfl (by kernel_rfl) (by kernel_rfl) (by kernel_rfl) (fun _ _ _ h => h) (Or.inl ⟨by rfl, ?_⟩) (by assumption) ?_
      · intro V hSV; go_simp
      simp only [Act.put, List.setIfInBounds_toArray, List.set_cons_zero, List.set_cons_succ]
      refine take_at 4 (.int .i64 i) rfl (by kernel_rfl) (by kernel_rfl) (by kernel_rfl) (fun _ _ _ h => h) (Or.inl ⟨by rfl, ?_⟩) (by assumption) ?_
      · intro V hSV; go_simp
      simp only [Act.put, List.setIfInBounds_toArray, List.set_cons_zero, List.set_cons_succ]
      refine take_at 5 (.pointer (some ⟨b, o + i * 4, none⟩)) rfl (by kernel_rfl) (by kernel_rfl) (by kernel_rfl) (fun _ _ _ h => h) (Or.inl ⟨by rfl, ?_⟩) (by assumption) ?_
      · intro V hSV; go_simp
      simp only [Act.put, List.setIfInBounds_toArray, List.set_cons_zero, List.set_cons_succ]
      refine take_at 6 (.agg #[.int .i64 kd, .int .i64 at', .slice da dn dc, .slice ca cn cc]) rfl (by kernel_rfl) (by kernel_rfl) (by kernel_rfl) (fun _ _ _ h => h) (Or.inl ⟨by rfl, ?_⟩) (by assumption) ?_
      · intro V hSV; have e0 := F0.out V hSV; have e1 := F1.out V hSV; have e2 := F2.out V hSV; have e3 := F3.out V hSV; go_simp
      simp only [Act.put, List.setIfInBounds_toArray, List.set_cons_zero, List.set_cons_succ]
      clear F0 F1 F2 F3 G0 G1 G2
      refine wpAnyH_ready (rs := [7, 11]) (by kernel_rfl) (by simp) ?_
      refine AllReadyH.cons rfl (fun KK hK => ?_) (AllReadyH.cons rfl (fun KK hK => ?_) AllReadyH.nil)
      · go_simp
        go_wp2_with (first | (go_at_call 6; refine (HSt.out _ (below_drew _)).mono ?_; rintro e U2 ⟨d', x', a', c', rfl, hD2, hL2, hF2, hT2, hr2, hs2⟩))
        refine hK.out _ _ ?_ (fun hHeld7 => ?_)
        · exact Fd.trans (below_fd (below_drew _) _ _ _) hF2
        clear hK KK
        obtain ⟨r', s', l', cr', ar', lf'⟩ := x'
        unfold rdV rdC
        dsimp only at hT2 hL2 ⊢
        generalize hL' : l'.length = L' at *
        have HT2 := Lib.hid (And.intro hT2 (And.intro hr2 (And.intro hs2 hL')))
        clear hT2 hr2 hs2 hL'
        have hS10 : Fd p aa bb wr (U2.alloc (.cells #[.int .i64 0, .int .i64 0, .slice none 0 0, .bool false, .bool false, .int .i64 0] 32)) := hHeld7.trans (below_fd (below_alloc _ _) _ _ _)
        have hz10 := alloc_at U2 (.cells #[.int .i64 0, .int .i64 0, .slice none 0 0, .bool false, .bool false, .int .i64 0] 32)
        have hfin := row_fin (cs := #[.int .i64 r', .int .i64 s', .slice a' L' c', .bool cr', .bool ar', .int .i64 lf']) (hD2.on (below_alloc U2 (.cells #[.int .i64 0, .int .i64 0, .slice none 0 0, .bool false, .bool false, .int .i64 0] 32))) (hL2.on (below_alloc U2 _)) hS10 hHeld7.size hz10
        have hst := store_rd (cs := #[.int .i64 r', .int .i64 s', .slice a' L' c', .bool cr', .bool ar', .int .i64 lf']) hz10 rfl rfl (six_one _ _ _ _ _ _ _ _)
        have hS11 := hfin.2.2.1
        have HU := Lib.hid (And.intro hfin (Nat.lt_of_lt_of_le HX.out.2.2.2.2.2 hHeld7.size))
        clear hfin hz10 hD2 hL2 hF2
        refine take_at 8 (.tuple #[.agg #[.int .i64 r', .int .i64 s', .slice a' L' c', .bool cr', .bool ar', .int .i64 lf'], .bool true]) rfl (by kernel_rfl) (by kernel_rfl) (by kernel_rfl) (fun _ _ _ h => h) (Or.inl ⟨by rfl, ?_⟩) (by assumption) ?_
        · intro V hSV; go_simp
        simp only [Act.put, List.setIfInBounds_toArray, List.set_cons_zero, List.set_cons_succ]
        refine take_at 9 (.agg #[.int .i64 r', .int .i64 s', .slice a' L' c', .bool cr', .bool ar', .int .i64 lf']) rfl (by kernel_rfl) (by kernel_rfl) (by kernel_rfl) (fun _ _ _ h => h) (Or.inl ⟨by rfl, ?_⟩) (by assumption) ?_
        · intro V hSV; go_simp
        simp only [Act.put, List.setIfInBounds_toArray, List.set_cons_zero, List.set_cons_succ]
        refine take_at 10 (.bool true) rfl (by kernel_rfl) (by kernel_rfl) (by kernel_rfl) (fun _ _ _ h => h) (Or.inl ⟨by rfl, ?_⟩) (by assumption) ?_
        · intro V hSV; go_simp
        simp only [Act.put, List.setIfInBounds_toArray, List.set_cons_zero, List.set_cons_succ]
        refine ready_alloc_rd 11 rfl (by kernel_rfl) (by rfl) (by rfl) hS10 ?_
        refine ready_store 12 rfl (by kernel_rfl) (by rfl) 32 _ _ (by rfl) _ _ (by rfl) (by rfl) hst hS11 ?_
        refine take_at 13 (.bool true) rfl (by kernel_rfl) (by kernel_rfl) (by kernel_rfl) (fun _ _ _ h => h) (Or.inl ⟨by rfl, ?_⟩) (by assumption) ?_
        · intro V hSV; go_simp
        simp only [Act.put, List.setIfInBounds_toArray, List.set_cons_zero, List.set_cons_succ]
        refine wpAnyH_done (by kernel_rfl) ?_ _
        refine NoPanic.normal ?_
        clear hst hS10 hS11 hHeld hHeld7 HSt GL
        generalize (U2.alloc (.cells #[.int .i64 0, .int .i64 0, .slice none 0 0, .bool false, .bool false, .int .i64 0] 32)).setRow U2.heap.size #[.int .i64 r', .int .i64 s', .slice a' L' c', .bool cr', .bool ar', .int .i64 lf'] = U5 at *
        generalize U2.heap.size = B10 at *
        have hB5 : Below w.heap.size w U5 := HX.out.2.2.1.trans (HU.out.1.2.2.1.below (N := w.heap.size) HX.out.2.2.1.size hpw.1 hpw.2.1 hpw.2.2)
        have hg10 := HU.out.1.2.2.2
        have hg7 := (HU.out.1.2.2.1.block _ (blk_lt HG7.out) HX.out.2.2.2.1.1 HX.out.2.2.2.1.2.1 HX.out.2.2.2.1.2.2).trans HG7.out
        have hgA := (HU.out.1.2.2.1.block _ (blk_lt HX.out.2.1) HX.out.2.2.2.2.1.1 HX.out.2.2.2.2.1.2.1 HX.out.2.2.2.2.1.2.2).trans HX.out.2.1
        obtain ⟨c0, c1, c2, c3, c4, c5⟩ := rd_cells hg10
        obtain ⟨d0, d1, d2, d3, d4, d5⟩ := rd_cells hg7
        have FZ := Lib.hid (fun o => frozen_of (o := o) hg7)
        have z0 := FZ.out 0
        have z1 := FZ.out 1
        have z2 := FZ.out 2
        have z3 := FZ.out 3
        have z4 := FZ.out 4
        have z5 := FZ.out 5
        have hfin := six_fin (w := w) HU.out.1.1 HU.out.1.2.1 hB5 (Nat.le_of_lt hwB) hg7 (.int .i64 r') (.int .i64 s') (.slice a' L' c') (.bool cr') (.bool ar') (.int .i64 lf')
        have hgA6 := (hfin.2.2.2.2 _ (by omega)).trans hgA
        have HV6 := Lib.hid (And.intro hfin hgA6)
        have hBB : B7 < B10 := HU.out.2
        obtain ⟨a0, a1, a2⟩ := ArAtR.cells (a := (⟨ag, af, az⟩ : Ar)) hgA6
        dsimp only at a0 a1 a2
        clear hB5 hg10 hg7 hgA FZ hfin hgA6 HU
        go_wp2_with fail
        clear c0 c1 c2 c3 c4 c5 d0 d1 d2 d3 d4 d5 z0 z1 z2 z3 z4 z5
        generalize ((((((U5.setCell ⟨B7, 0, none⟩ (.int .i64 r')).setCell ⟨B7, 1, none⟩ (.int .i64 s')).setCell ⟨B7, 2, none⟩ (.slice a' L' c')).setCell ⟨B7, 3, none⟩ (.bool cr')).setCell ⟨B7, 4, none⟩ (.bool ar')).setCell ⟨B7, 5, none⟩ (.int .i64 lf')) = U6 at *

        have hlen : l'.length ≤ 1000 := Nat.le_trans (tie_len HT2.out.1 ⟨HT2.out.2.1, HT2.out.2.2.1⟩) (by decide)
        have HLd : Hid (Calls Tryz.prog 7 #[.pointer (some ⟨p, 0, none⟩), .agg #[.int .i64 ag, .int .i64 af, .int .i64 az]] U6 fun e w' => ∃ la ln lc, e = .returned (.tuple #[.slice la ln lc, .int .u64 (ldN d' (⟨ag, af, az⟩ : Ar) : Nat), errV (loadE d' (⟨ag, af, az⟩ : Ar))]) ∧ BytesIn w' la (ldT d' (⟨ag, af, az⟩ : Ar)) ∧ ln = (ldT d' (⟨ag, af, az⟩ : Ar)).length ∧ Below U6.heap.size U6 w') := load_x HV6.out.1.1 (⟨ag, af, az⟩ : Ar) HAr.out
        have HRl : Hid (∀ U, Below U6.heap.size U6 U → Calls Tryz.prog 8 #[.agg #[.int .i64 r', .int .i64 s', .slice a' L' c', .bool cr', .bool ar', .int .i64 lf'], .agg #[.int .i64 ag, .int .i64 af, .int .i64 az]] U fun e w' => e = .returned (.tuple #[.string (bs (ldT d' (⟨ag, af, az⟩ : Ar))), .int .u64 (ldN d' (⟨ag, af, az⟩ : Ar) : Nat), .int .i64 (loadE d' (⟨ag, af, az⟩ : Ar) : Nat)]) ∧ Below U.heap.size U w') := fun U hU => by
          have := rload_ (w := U) ⟨r', s', l', cr', ar', lf'⟩ a' c' d' (⟨ag, af, az⟩ : Ar) (⟨HV6.out.1.2.1.on hU, HT2.out.1, HV6.out.1.1.ok, hlen, HV6.out.1.1.lim⟩ : Rdv _ ⟨r', s', l', cr', ar', lf'⟩ a' c' d') HAr.out
          unfold rdV rdC arV at this
          dsimp only at this
          rw [HT2.out.2.2.2] at this
          exact this
        have HHv : Hid (∀ U, Below U6.heap.size U6 U → Calls Tryz.prog 9 #[.pointer (some ⟨p, 0, none⟩), .agg #[.int .i64 ag, .int .i64 af, .int .i64 az]] U fun e w' => e = .returned (.tuple #[.int .u64 (bN d' (⟨ag, af, az⟩ : Ar) 0 : Nat), .int .u64 (bN d' (⟨ag, af, az⟩ : Ar) 1 : Nat), errV (lookE d' (⟨ag, af, az⟩ : Ar))]) ∧ Below U.heap.size U w') := fun U hU => halves_ (HV6.out.1.1.on hU) (⟨ag, af, az⟩ : Ar) HAr.out
        have HRb : Hid (∀ U, Below U6.heap.size U6 U → Calls Tryz.prog 10 #[.agg #[.int .i64 r', .int .i64 s', .slice a' L' c', .bool cr', .bool ar', .int .i64 lf'], .agg #[.int .i64 ag, .int .i64 af, .int .i64 az]] U fun e w' => e = .returned (.tuple #[.int .u64 (bN d' (⟨ag, af, az⟩ : Ar) 0 : Nat), .string (bs (bT d' (⟨ag, af, az⟩ : Ar) 0)), .int .u64 (bN d' (⟨ag, af, az⟩ : Ar) 1 : Nat), .string (bs (bT d' (⟨ag, af, az⟩ : Ar) 1)), .int .i64 (lookE d' (⟨ag, af, az⟩ : Ar) : Nat)]) ∧ Below U.heap.size U w') := fun U hU => by
          have := rboth_ (w := U) ⟨r', s', l', cr', ar', lf'⟩ a' c' d' (⟨ag, af, az⟩ : Ar) (⟨HV6.out.1.2.1.on hU, HT2.out.1, HV6.out.1.1.ok, hlen, HV6.out.1.1.lim⟩ : Rdv _ ⟨r', s', l', cr', ar', lf'⟩ a' c' d') HAr.out
          unfold rdV rdC arV at this
          dsimp only at this
          rw [HT2.out.2.2.2] at this
          exact this
        have HCell : Hid (∀ U, Below U6.heap.size U6 U → U.heap[B7]? = some (.cells #[.int .i64 r', .int .i64 s', .slice a' L' c', .bool cr', .bool ar', .int .i64 lf'] 32 (0, 0)) ∧ ArAtR U w.heap.size (⟨ag, af, az⟩ : Ar)) := fun U hU => ⟨(hU.block _ (blk_lt HV6.out.1.2.2.2.1)).trans HV6.out.1.2.2.2.1, (hU.block _ (blk_lt HV6.out.2)).trans HV6.out.2⟩
        have HNm : Hid (∀ (k : Nat) U, Below U6.heap.size U6 U → Calls Tryz.prog 11 #[errV k] U fun e w' => e = .returned (.int .i64 (k : Int)) ∧ Below U.heap.size U w') := fun k U hU => num_ k U (HE.out.on (below_step HV6.out.1.2.2.1 hU))
        clear hlen
        generalize loadE d' (⟨ag, af, az⟩ : Ar) = e1 at *
        generalize hT9 : ldT d' (⟨ag, af, az⟩ : Ar) = tx at *
        generalize ldN d' (⟨ag, af, az⟩ : Ar) = n1 at *
        generalize bN d' (⟨ag, af, az⟩ : Ar) 0 = m0 at *
        generalize bN d' (⟨ag, af, az⟩ : Ar) 1 = m1 at *
        generalize bs (bT d' (⟨ag, af, az⟩ : Ar) 0) = t0 at *
        generalize bs (bT d' (⟨ag, af, az⟩ : Ar) 1) = t1 at *
        generalize lookE d' (⟨ag, af, az⟩ : Ar) = e2 at *
        clear hT9
        go_wp2_with fail
        refine HLd.out.mono ?_
        rintro e U7 ⟨la, ln, lc, rfl, hby7, hln7, hb7⟩
        have HB7' := Lib.hid hb7
        have HBy := Lib.hid (And.intro hby7 hln7)
        clear a0 a1 a2 HLd hb7 hby7 hln7
        obtain ⟨a0, a1, a2⟩ := ArAtR.cells (HCell.out _ HB7'.out).2
        obtain ⟨c0, c1, c2, c3, c4, c5⟩ := rd_cells (HCell.out _ HB7'.out).1
        dsimp only at a0 a1 a2
        have HC8 := Lib.hid (HRl.out _ HB7'.out)
        go_wp2_with fail
        refine HC8.out.mono ?_
        rintro e U8 ⟨rfl, hb8⟩
        have HB8 := Lib.hid (below_step HB7'.out hb8)
        have HBy8 := Lib.hid (HBy.out.1.on hb8)
        clear a0 a1 a2 c0 c1 c2 c3 c4 c5 HC8 HRl hb8
        obtain ⟨a0, a1, a2⟩ := ArAtR.cells (HCell.out _ HB8.out).2
        dsimp only at a0 a1 a2
        have HC9 := Lib.hid (HHv.out _ HB8.out)
        go_wp2_with fail
        refine HC9.out.mono ?_
        rintro e U9 ⟨rfl, hb9⟩
        have HB9 := Lib.hid (below_step HB8.out hb9)
        have HBy9 := Lib.hid (HBy8.out.on hb9)
        clear a0 a1 a2 HC9 HHv hb9
        obtain ⟨a0, a1, a2⟩ := ArAtR.cells (HCell.out _ HB9.out).2
        obtain ⟨c0, c1, c2, c3, c4, c5⟩ := rd_cells (HCell.out _ HB9.out).1
        dsimp only at a0 a1 a2
        have HC10 := Lib.hid (HRb.out _ HB9.out)
        go_wp2_with fail
        refine HC10.out.mono ?_
        rintro e U10 ⟨rfl, hb10⟩
        have HB10 := Lib.hid (below_step HB9.out hb10)
        have hcv : (convert 37 9 (.slice la ln lc)).run Tryz.prog U10 = .ok (.string (bs tx)) U10 := conv_ U10 la ln lc tx HBy.out.2 (HBy9.out.on hb10)
        clear a0 a1 a2 c0 c1 c2 c3 c4 c5 HC10 HRb hb10 HBy HBy8 HBy9
        generalize bs tx = sx at *
        have HC11 := Lib.hid (HNm.out e1 _ HB10.out)
        generalize hq1 : errV e1 = q1' at *
        have HNm2 : Hid (∀ U, Below U6.heap.size U6 U → Calls Tryz.prog 11 #[errV e2] U fun e w' => e = .returned (.int .i64 (e2 : Int)) ∧ Below U.heap.size U w') := fun U hU => HNm.out e2 U hU
        generalize hq2 : errV e2 = q2' at *
        clear hq1 hq2 HNm
        go_wp2_with fail
        refine HC11.out.mono ?_
        rintro e U11 ⟨rfl, hb11⟩
        have HB11 := Lib.hid (below_step HB10.out hb11)
        have HC12 := Lib.hid (HNm2.out _ HB11.out)
        clear hcv HC11 hb11 HNm2
        go_wp2_with fail
        refine HC12.out.mono ?_
        rintro e U12 ⟨rfl, hb12⟩
        have hBe : Below U6.heap.size U6 U12 := below_step HB11.out hb12
        have HR1 : Hid (Run9 w (⟨ag, af, az⟩ : Ar) B7 p aa bb (i + 1) U12) := ⟨d', ⟨r', s', l', cr', ar', lf'⟩, a', c', by rw [show 8193 * (i + 1) = 8193 * i + 8193 by omega]; exact HV6.out.1.1.on hBe, by
            unfold rdC
            dsimp only
            rw [HT2.out.2.2.2]
            exact (HCell.out _ hBe).1, HV6.out.1.2.1.on hBe, HT2.out.1, ⟨HT2.out.2.1, HT2.out.2.2.1⟩, (HCell.out _ hBe).2, below_step HV6.out.1.2.2.1 hBe⟩
        clear hb12 hBe HC12 HCell
        go_wp2_with fail
        go_roundw
        case rel => exact ⟨i + 1, by go_num, by omega, by omega, HR1⟩
        case measure => simp [intOf]; omega
      · go_simp
        have hBz : Below wr.heap.size wr (wr.alloc (.cells #[.int .i64 0, .int .i64 0, .slice none 0 0, .bool false, .bool false, .int .i64 0] 32)).drew := below_step (below_alloc _ _) (below_drew _)
        refine hK.out _ _ ?_ (fun hHeld11 => ?_)
        · exact below_fd hBz _ _ _
        clear hK KK
        have hz10 : ((wr.alloc (.cells #[.int .i64 0, .int .i64 0, .slice none 0 0, .bool false, .bool false, .int .i64 0] 32)).drew).heap[wr.heap.size]? = some (.cells #[.int .i64 0, .int .i64 0, .slice none 0 0, .bool false, .bool false, .int .i64 0] 32 (0, 0)) := by rw [drew_heap]; exact alloc_at wr _
        have HSz := Lib.hid (HSt.out _ hBz)
        have HBz := Lib.hid (And.intro hBz hz10)
        clear hBz hz10
        generalize (wr.alloc (.cells #[.int .i64 0, .int .i64 0, .slice none 0 0, .bool false, .bool false, .int .i64 0] 32)).drew = Uz at *
        refine wpAnyH_ready (rs := [7]) (by kernel_rfl) (by simp) ?_
        refine AllReadyH.cons rfl (fun KK hK => ?_) AllReadyH.nil
        go_simp
        go_wp2_with (first | (go_at_call 6; refine HSz.out.mono ?_; rintro e U2 ⟨d', x', a', c', rfl, hD2, hL2, hF2, hT2, hr2, hs2⟩))
        refine hK.out _ _ ?_ (fun hHeld7 => ?_)
        · exact Fd.trans (below_fd HBz.out.1 _ _ _) hF2
        clear hK KK
        obtain ⟨r', s', l', cr', ar', lf'⟩ := x'
        unfold rdV rdC
        dsimp only at hT2 hL2 ⊢
        generalize hL' : l'.length = L' at *
        have HT2 := Lib.hid (And.intro hT2 (And.intro hr2 (And.intro hs2 hL')))
        clear hT2 hr2 hs2 hL'
        have hzn : wr.heap.size ≠ p ∧ wr.heap.size ≠ aa ∧ wr.heap.size ≠ bb := HX2.out wr.heap.size (Nat.le_refl _)
        have hz2 := (hF2.block _ (blk_lt HBz.out.2) hzn.1 hzn.2.1 hzn.2.2).trans HBz.out.2
        have hfin := row_fin (cs := #[.int .i64 r', .int .i64 s', .slice a' L' c', .bool cr', .bool ar', .int .i64 lf']) hD2 hL2 hHeld7 (Nat.le_refl _) hz2
        have hst := store_rd (cs := #[.int .i64 r', .int .i64 s', .slice a' L' c', .bool cr', .bool ar', .int .i64 lf']) hz2 rfl rfl (six_one _ _ _ _ _ _ _ _)
        have hS11 := hfin.2.2.1
        have HU := Lib.hid (And.intro hfin HX.out.2.2.2.2.2)
        clear hfin hz2 hzn hD2 hL2 hF2 HBz HSz
        refine take_at 8 (.tuple #[.agg #[.int .i64 r', .int .i64 s', .slice a' L' c', .bool cr', .bool ar', .int .i64 lf'], .bool true]) rfl (by kernel_rfl) (by kernel_rfl) (by kernel_rfl) (fun _ _ _ h => h) (Or.inl ⟨by rfl, ?_⟩) (by assumption) ?_
        · intro V hSV; go_simp
        simp only [Act.put, List.setIfInBounds_toArray, List.set_cons_zero, List.set_cons_succ]
        refine take_at 9 (.agg #[.int .i64 r', .int .i64 s', .slice a' L' c', .bool cr', .bool ar', .int .i64 lf']) rfl (by kernel_rfl) (by kernel_rfl) (by kernel_rfl) (fun _ _ _ h => h) (Or.inl ⟨by rfl, ?_⟩) (by assumption) ?_
        · intro V hSV; go_simp
        simp only [Act.put, List.setIfInBounds_toArray, List.set_cons_zero, List.set_cons_succ]
        refine take_at 10 (.bool true) rfl (by kernel_rfl) (by kernel_rfl) (by kernel_rfl) (fun _ _ _ h => h) (Or.inl ⟨by rfl, ?_⟩) (by assumption) ?_
        · intro V hSV; go_simp
        simp only [Act.put, List.setIfInBounds_toArray, List.set_cons_zero, List.set_cons_succ]
        refine ready_store 12 rfl (by kernel_rfl) (by rfl) 32 _ _ (by rfl) _ _ (by rfl) (by rfl) hst hS11 ?_
        refine take_at 13 (.bool true) rfl (by kernel_rfl) (by kernel_rfl) (by kernel_rfl) (fun _ _ _ h => h) (Or.inl ⟨by rfl, ?_⟩) (by assumption) ?_
        · intro V hSV; go_simp
        simp only [Act.put, List.setIfInBounds_toArray, List.set_cons_zero, List.set_cons_succ]
        refine wpAnyH_done (by kernel_rfl) ?_ _
        refine NoPanic.normal ?_
        clear hst hS11 hHeld hHeld11 hHeld7 HSt GL
        generalize U2.setRow wr.heap.size #[.int .i64 r', .int .i64 s', .slice a' L' c', .bool cr', .bool ar', .int .i64 lf'] = U5 at *
        generalize hB10 : wr.heap.size = B10 at *
        clear hB10
        have hB5 : Below w.heap.size w U5 := HX.out.2.2.1.trans (HU.out.1.2.2.1.below (N := w.heap.size) HX.out.2.2.1.size hpw.1 hpw.2.1 hpw.2.2)
        have hg10 := HU.out.1.2.2.2
        have hg7 := (HU.out.1.2.2.1.block _ (blk_lt HG7.out) HX.out.2.2.2.1.1 HX.out.2.2.2.1.2.1 HX.out.2.2.2.1.2.2).trans HG7.out
        have hgA := (HU.out.1.2.2.1.block _ (blk_lt HX.out.2.1) HX.out.2.2.2.2.1.1 HX.out.2.2.2.2.1.2.1 HX.out.2.2.2.2.1.2.2).trans HX.out.2.1
        obtain ⟨c0, c1, c2, c3, c4, c5⟩ := rd_cells hg10
        obtain ⟨d0, d1, d2, d3, d4, d5⟩ := rd_cells hg7
        have FZ := Lib.hid (fun o => frozen_of (o := o) hg7)
        have z0 := FZ.out 0
        have z1 := FZ.out 1
        have z2 := FZ.out 2
        have z3 := FZ.out 3
        have z4 := FZ.out 4
        have z5 := FZ.out 5
        have hfin := six_fin (w := w) HU.out.1.1 HU.out.1.2.1 hB5 (Nat.le_of_lt hwB) hg7 (.int .i64 r') (.int .i64 s') (.slice a' L' c') (.bool cr') (.bool ar') (.int .i64 lf')
        have hgA6 := (hfin.2.2.2.2 _ (by omega)).trans hgA
        have HV6 := Lib.hid (And.intro hfin hgA6)
        have hBB : B7 < B10 := HU.out.2
        obtain ⟨a0, a1, a2⟩ := ArAtR.cells (a := (⟨ag, af, az⟩ : Ar)) hgA6
        dsimp only at a0 a1 a2
        clear hB5 hg10 hg7 hgA FZ hfin hgA6 HU
        go_wp2_with fail
        clear c0 c1 c2 c3 c4 c5 d0 d1 d2 d3 d4 d5 z0 z1 z2 z3 z4 z5
        generalize ((((((U5.setCell ⟨B7, 0, none⟩ (.int .i64 r')).setCell ⟨B7, 1, none⟩ (.int .i64 s')).setCell ⟨B7, 2, none⟩ (.slice a' L' c')).setCell ⟨B7, 3, none⟩ (.bool cr')).setCell ⟨B7, 4, none⟩ (.bool ar')).setCell ⟨B7, 5, none⟩ (.int .i64 lf')) = U6 at *

        have hlen : l'.length ≤ 1000 := Nat.le_trans (tie_len HT2.out.1 ⟨HT2.out.2.1, HT2.out.2.2.1⟩) (by decide)
        have HLd : Hid (Calls Tryz.prog 7 #[.pointer (some ⟨p, 0, none⟩), .agg #[.int .i64 ag, .int .i64 af, .int .i64 az]] U6 fun e w' => ∃ la ln lc, e = .returned (.tuple #[.slice la ln lc, .int .u64 (ldN d' (⟨ag, af, az⟩ : Ar) : Nat), errV (loadE d' (⟨ag, af, az⟩ : Ar))]) ∧ BytesIn w' la (ldT d' (⟨ag, af, az⟩ : Ar)) ∧ ln = (ldT d' (⟨ag, af, az⟩ : Ar)).length ∧ Below U6.heap.size U6 w') := load_x HV6.out.1.1 (⟨ag, af, az⟩ : Ar) HAr.out
        have HRl : Hid (∀ U, Below U6.heap.size U6 U → Calls Tryz.prog 8 #[.agg #[.int .i64 r', .int .i64 s', .slice a' L' c', .bool cr', .bool ar', .int .i64 lf'], .agg #[.int .i64 ag, .int .i64 af, .int .i64 az]] U fun e w' => e = .returned (.tuple #[.string (bs (ldT d' (⟨ag, af, az⟩ : Ar))), .int .u64 (ldN d' (⟨ag, af, az⟩ : Ar) : Nat), .int .i64 (loadE d' (⟨ag, af, az⟩ : Ar) : Nat)]) ∧ Below U.heap.size U w') := fun U hU => by
          have := rload_ (w := U) ⟨r', s', l', cr', ar', lf'⟩ a' c' d' (⟨ag, af, az⟩ : Ar) (⟨HV6.out.1.2.1.on hU, HT2.out.1, HV6.out.1.1.ok, hlen, HV6.out.1.1.lim⟩ : Rdv _ ⟨r', s', l', cr', ar', lf'⟩ a' c' d') HAr.out
          unfold rdV rdC arV at this
          dsimp only at this
          rw [HT2.out.2.2.2] at this
          exact this
        have HHv : Hid (∀ U, Below U6.heap.size U6 U → Calls Tryz.prog 9 #[.pointer (some ⟨p, 0, none⟩), .agg #[.int .i64 ag, .int .i64 af, .int .i64 az]] U fun e w' => e = .returned (.tuple #[.int .u64 (bN d' (⟨ag, af, az⟩ : Ar) 0 : Nat), .int .u64 (bN d' (⟨ag, af, az⟩ : Ar) 1 : Nat), errV (lookE d' (⟨ag, af, az⟩ : Ar))]) ∧ Below U.heap.size U w') := fun U hU => halves_ (HV6.out.1.1.on hU) (⟨ag, af, az⟩ : Ar) HAr.out
        have HRb : Hid (∀ U, Below U6.heap.size U6 U → Calls Tryz.prog 10 #[.agg #[.int .i64 r', .int .i64 s', .slice a' L' c', .bool cr', .bool ar', .int .i64 lf'], .agg #[.int .i64 ag, .int .i64 af, .int .i64 az]] U fun e w' => e = .returned (.tuple #[.int .u64 (bN d' (⟨ag, af, az⟩ : Ar) 0 : Nat), .string (bs (bT d' (⟨ag, af, az⟩ : Ar) 0)), .int .u64 (bN d' (⟨ag, af, az⟩ : Ar) 1 : Nat), .string (bs (bT d' (⟨ag, af, az⟩ : Ar) 1)), .int .i64 (lookE d' (⟨ag, af, az⟩ : Ar) : Nat)]) ∧ Below U.heap.size U w') := fun U hU => by
          have := rboth_ (w := U) ⟨r', s', l', cr', ar', lf'⟩ a' c' d' (⟨ag, af, az⟩ : Ar) (⟨HV6.out.1.2.1.on hU, HT2.out.1, HV6.out.1.1.ok, hlen, HV6.out.1.1.lim⟩ : Rdv _ ⟨r', s', l', cr', ar', lf'⟩ a' c' d') HAr.out
          unfold rdV rdC arV at this
          dsimp only at this
          rw [HT2.out.2.2.2] at this
          exact this
        have HCell : Hid (∀ U, Below U6.heap.size U6 U → U.heap[B7]? = some (.cells #[.int .i64 r', .int .i64 s', .slice a' L' c', .bool cr', .bool ar', .int .i64 lf'] 32 (0, 0)) ∧ ArAtR U w.heap.size (⟨ag, af, az⟩ : Ar)) := fun U hU => ⟨(hU.block _ (blk_lt HV6.out.1.2.2.2.1)).trans HV6.out.1.2.2.2.1, (hU.block _ (blk_lt HV6.out.2)).trans HV6.out.2⟩
        have HNm : Hid (∀ (k : Nat) U, Below U6.heap.size U6 U → Calls Tryz.prog 11 #[errV k] U fun e w' => e = .returned (.int .i64 (k : Int)) ∧ Below U.heap.size U w') := fun k U hU => num_ k U (HE.out.on (below_step HV6.out.1.2.2.1 hU))
        clear hlen
        generalize loadE d' (⟨ag, af, az⟩ : Ar) = e1 at *
        generalize hT9 : ldT d' (⟨ag, af, az⟩ : Ar) = tx at *
        generalize ldN d' (⟨ag, af, az⟩ : Ar) = n1 at *
        generalize bN d' (⟨ag, af, az⟩ : Ar) 0 = m0 at *
        generalize bN d' (⟨ag, af, az⟩ : Ar) 1 = m1 at *
        generalize bs (bT d' (⟨ag, af, az⟩ : Ar) 0) = t0 at *
        generalize bs (bT d' (⟨ag, af, az⟩ : Ar) 1) = t1 at *
        generalize lookE d' (⟨ag, af, az⟩ : Ar) = e2 at *
        clear hT9
        go_wp2_with fail
        refine HLd.out.mono ?_
        rintro e U7 ⟨la, ln, lc, rfl, hby7, hln7, hb7⟩
        have HB7' := Lib.hid hb7
        have HBy := Lib.hid (And.intro hby7 hln7)
        clear a0 a1 a2 HLd hb7 hby7 hln7
        obtain ⟨a0, a1, a2⟩ := ArAtR.cells (HCell.out _ HB7'.out).2
        obtain ⟨c0, c1, c2, c3, c4, c5⟩ := rd_cells (HCell.out _ HB7'.out).1
        dsimp only at a0 a1 a2
        have HC8 := Lib.hid (HRl.out _ HB7'.out)
        go_wp2_with fail
        refine HC8.out.mono ?_
        rintro e U8 ⟨rfl, hb8⟩
        have HB8 := Lib.hid (below_step HB7'.out hb8)
        have HBy8 := Lib.hid (HBy.out.1.on hb8)
        clear a0 a1 a2 c0 c1 c2 c3 c4 c5 HC8 HRl hb8
        obtain ⟨a0, a1, a2⟩ := ArAtR.cells (HCell.out _ HB8.out).2
        dsimp only at a0 a1 a2
        have HC9 := Lib.hid (HHv.out _ HB8.out)
        go_wp2_with fail
        refine HC9.out.mono ?_
        rintro e U9 ⟨rfl, hb9⟩
        have HB9 := Lib.hid (below_step HB8.out hb9)
        have HBy9 := Lib.hid (HBy8.out.on hb9)
        clear a0 a1 a2 HC9 HHv hb9
        obtain ⟨a0, a1, a2⟩ := ArAtR.cells (HCell.out _ HB9.out).2
        obtain ⟨c0, c1, c2, c3, c4, c5⟩ := rd_cells (HCell.out _ HB9.out).1
        dsimp only at a0 a1 a2
        have HC10 := Lib.hid (HRb.out _ HB9.out)
        go_wp2_with fail
        refine HC10.out.mono ?_
        rintro e U10 ⟨rfl, hb10⟩
        have HB10 := Lib.hid (below_step HB9.out hb10)
        have hcv : (convert 37 9 (.slice la ln lc)).run Tryz.prog U10 = .ok (.string (bs tx)) U10 := conv_ U10 la ln lc tx HBy.out.2 (HBy9.out.on hb10)
        clear a0 a1 a2 c0 c1 c2 c3 c4 c5 HC10 HRb hb10 HBy HBy8 HBy9
        generalize bs tx = sx at *
        have HC11 := Lib.hid (HNm.out e1 _ HB10.out)
        generalize hq1 : errV e1 = q1' at *
        have HNm2 : Hid (∀ U, Below U6.heap.size U6 U → Calls Tryz.prog 11 #[errV e2] U fun e w' => e = .returned (.int .i64 (e2 : Int)) ∧ Below U.heap.size U w') := fun U hU => HNm.out e2 U hU
        generalize hq2 : errV e2 = q2' at *
        clear hq1 hq2 HNm
        go_wp2_with fail
        refine HC11.out.mono ?_
        rintro e U11 ⟨rfl, hb11⟩
        have HB11 := Lib.hid (below_step HB10.out hb11)
        have HC12 := Lib.hid (HNm2.out _ HB11.out)
        clear hcv HC11 hb11 HNm2
        go_wp2_with fail
        refine HC12.out.mono ?_
        rintro e U12 ⟨rfl, hb12⟩
        have hBe : Below U6.heap.size U6 U12 := below_step HB11.out hb12
        have HR1 : Hid (Run9 w (⟨ag, af, az⟩ : Ar) B7 p aa bb (i + 1) U12) := ⟨d', ⟨r', s', l', cr', ar', lf'⟩, a', c', by rw [show 8193 * (i + 1) = 8193 * i + 8193 by omega]; exact HV6.out.1.1.on hBe, by
            unfold rdC
            dsimp only
            rw [HT2.out.2.2.2]
            exact (HCell.out _ hBe).1, HV6.out.1.2.1.on hBe, HT2.out.1, ⟨HT2.out.2.1, HT2.out.2.2.1⟩, (HCell.out _ hBe).2, below_step HV6.out.1.2.2.1 hBe⟩
        clear hb12 hBe HC12 HCell
        go_wp2_with fail
        go_roundw
        case rel => exact ⟨i + 1, by go_num, by omega, by omega, HR1⟩
        case measure => simp [intOf]; omega
    · by_cases hn1 : i < n
      · have q1 : decide ((i : Int) < (n : Int)) = true := decide_eq_true (by omega)
        have q2 : decide ((i : Int) < 40) = false := decide_eq_false (by omega)
        clear hgo
        obtain ⟨d, x, ra, rc, hd, hg7, hls, htie, hrs, hgA, hb⟩ := HS.out
        obtain ⟨a0, a1, a2⟩ := ArAtR.cells hgA
        dsimp only at a0 a1 a2
        have HBw := Lib.hid hb
        have GA : Hid (∀ U, Below wr.heap.size wr U → U.cell? ⟨w.heap.size, 0, none⟩ = some (.int .i64 ag)) := fun U hU => (hU.cell (block_lt_of_cell a0)).trans a0
        have GB : Hid (∀ U, Below wr.heap.size wr U → U.cell? ⟨w.heap.size, 1, none⟩ = some (.int .i64 af)) := fun U hU => (hU.cell (block_lt_of_cell a1)).trans a1
        have GC : Hid (∀ U, Below wr.heap.size wr U → U.cell? ⟨w.heap.size, 2, none⟩ = some (.int .i64 az)) := fun U hU => (hU.cell (block_lt_of_cell a2)).trans a2
        have HRm : Hid (∀ U, Calls Tryz.prog 12 #[.agg #[.int .i64 ag, .int .i64 af, .int .i64 az]] U fun e w' => e = .returned (.int .i64 (roomA (⟨ag, af, az⟩ : Ar))) ∧ Below U.heap.size U w') := fun U => room9_ (⟨ag, af, az⟩ : Ar) U
        have HRr : Hid (∀ U, Calls Tryz.prog 13 #[.agg #[.int .i64 ag, .int .i64 af, .int .i64 az]] U fun e w' => e = .returned (.int .i64 (roomA (⟨ag, af, az⟩ : Ar))) ∧ Below U.heap.size U w') := fun U => rroom_ (⟨ag, af, az⟩ : Ar) U HAr.out.2.2
        generalize roomA (⟨ag, af, az⟩ : Ar) = rm at *
        clear hd hg7 hls htie hrs hgA hb HS H1 a0 a1 a2
        go_wp2_with fail
        refine wp_region_noPanic ?_
        refine wp_region_held_drew (S := fun U => Below wr.heap.size wr U) (by kernel_rfl) (below_drew _) (fun hHeld => ?_)
        refine take_at 0 (.agg #[.int .i64 ag, .int .i64 af, .int .i64 az]) rfl (by kernel_rfl) (by kernel_rfl) (by kernel_rfl) (fun _ _ _ h => h) (Or.inl ⟨by rfl, ?_⟩) (by assumption) ?_
        · intro V hSV; have e0 := GA.out V hSV; have e1 := GB.out V hSV; have e2 := GC.out V hSV; go_simp
        simp only [Act.put, List.setIfInBounds_toArray, List.set_cons_zero, List.set_cons_succ]
        refine take_at 2 (.agg #[.int .i64 ag, .int .i64 af, .int .i64 az]) rfl (by kernel_rfl) (by kernel_rfl) (by kernel_rfl) (fun _ _ _ h => h) (Or.inl ⟨by rfl, ?_⟩) (by assumption) ?_
        · intro V hSV; have e0 := GA.out V hSV; have e1 := GB.out V hSV; have e2 := GC.out V hSV; go_simp
        simp only [Act.put, List.setIfInBounds_toArray, List.set_cons_zero, List.set_cons_succ]
        clear GA GB GC
        refine wpAnyH_ready (rs := [1]) (by kernel_rfl) (by simp) ?_
        refine AllReadyH.cons rfl (fun KK hK => ?_) AllReadyH.nil
        go_simp
        go_wp2_with (first | (go_at_call 12; refine (HRm.out _).mono ?_; rintro e Y1 ⟨rfl, hy1⟩))
        refine hK.out _ _ ?_ (fun hHeld1 => ?_)
        · exact below_step (by assumption) hy1
        clear hK KK
        refine wpAnyH_ready (rs := [3]) (by kernel_rfl) (by simp) ?_
        refine AllReadyH.cons rfl (fun KK hK => ?_) AllReadyH.nil
        go_simp
        go_wp2_with (first | (go_at_call 13; refine (HRr.out _).mono ?_; rintro e Y2 ⟨rfl, hy2⟩))
        refine hK.out _ _ ?_ (fun hHeld3 => ?_)
        · exact below_step (by assumption) hy2
        clear hK KK
        refine take_at 4 (.bool true) rfl (by kernel_rfl) (by kernel_rfl) (by kernel_rfl) (fun _ _ _ h => h) (Or.inl ⟨by rfl, ?_⟩) (by assumption) ?_
        · intro V hSV; go_simp
        simp only [Act.put, List.setIfInBounds_toArray, List.set_cons_zero, List.set_cons_succ]
        refine take_at 5 (.bool true) rfl (by kernel_rfl) (by kernel_rfl) (by kernel_rfl) (fun _ _ _ h => h) (Or.inl ⟨by rfl, ?_⟩) (by assumption) ?_
        · intro V hSV; go_simp
        simp only [Act.put, List.setIfInBounds_toArray, List.set_cons_zero, List.set_cons_succ]
        refine wpAnyH_ready (rs := [6]) (by kernel_rfl) (by simp) ?_
        refine AllReadyH.cons rfl (fun KK hK => ?_) AllReadyH.nil
        go_simp
        go_wp2_with (first | (go_at_call 14; refine (sure_ _).mono ?_; rintro e Y3 ⟨rfl, hy3⟩))
        refine hK.out _ _ ?_ (fun hHeld6 => ?_)
        · exact below_step (by assumption) hy3
        clear hK KK
        refine take_at 7 (.bool true) rfl (by kernel_rfl) (by kernel_rfl) (by kernel_rfl) (fun _ _ _ h => h) (Or.inl ⟨by rfl, ?_⟩) (by assumption) ?_
        · intro V hSV; go_simp
        simp only [Act.put, List.setIfInBounds_toArray, List.set_cons_zero, List.set_cons_succ]
        refine take_at 8 (.bool true) rfl (by kernel_rfl) (by kernel_rfl) (by kernel_rfl) (fun _ _ _ h => h) (Or.inl ⟨by rfl, ?_⟩) (by assumption) ?_
        · intro V hSV; go_simp
        simp only [Act.put, List.setIfInBounds_toArray, List.set_cons_zero, List.set_cons_succ]
        refine wpAnyH_done (by kernel_rfl) ?_ _
        refine NoPanic.normal ?_
        have HBe := Lib.hid (below_step HBw.out hHeld6)
        clear hHeld hHeld1 hHeld3 hHeld6 hy3 hy1 hy2
        go_wp2_with fail
        go_ret
        exact ⟨rfl, HBe.out⟩
      · have q1 : decide ((i : Int) < (n : Int)) = false := decide_eq_false (by omega)
        clear hgo
        obtain ⟨d, x, ra, rc, hd, hg7, hls, htie, hrs, hgA, hb⟩ := HS.out
        obtain ⟨a0, a1, a2⟩ := ArAtR.cells hgA
        dsimp only at a0 a1 a2
        have HBw := Lib.hid hb
        have GA : Hid (∀ U, Below wr.heap.size wr U → U.cell? ⟨w.heap.size, 0, none⟩ = some (.int .i64 ag)) := fun U hU => (hU.cell (block_lt_of_cell a0)).trans a0
        have GB : Hid (∀ U, Below wr.heap.size wr U → U.cell? ⟨w.heap.size, 1, none⟩ = some (.int .i64 af)) := fun U hU => (hU.cell (block_lt_of_cell a1)).trans a1
        have GC : Hid (∀ U, Below wr.heap.size wr U → U.cell? ⟨w.heap.size, 2, none⟩ = some (.int .i64 az)) := fun U hU => (hU.cell (block_lt_of_cell a2)).trans a2
        have HRm : Hid (∀ U, Calls Tryz.prog 12 #[.agg #[.int .i64 ag, .int .i64 af, .int .i64 az]] U fun e w' => e = .returned (.int .i64 (roomA (⟨ag, af, az⟩ : Ar))) ∧ Below U.heap.size U w') := fun U => room9_ (⟨ag, af, az⟩ : Ar) U
        have HRr : Hid (∀ U, Calls Tryz.prog 13 #[.agg #[.int .i64 ag, .int .i64 af, .int .i64 az]] U fun e w' => e = .returned (.int .i64 (roomA (⟨ag, af, az⟩ : Ar))) ∧ Below U.heap.size U w') := fun U => rroom_ (⟨ag, af, az⟩ : Ar) U HAr.out.2.2
        generalize roomA (⟨ag, af, az⟩ : Ar) = rm at *
        clear hd hg7 hls htie hrs hgA hb HS H1 a0 a1 a2
        go_wp2_with fail
        refine wp_region_noPanic ?_
        refine wp_region_held_drew (S := fun U => Below wr.heap.size wr U) (by kernel_rfl) (below_drew _) (fun hHeld => ?_)
        refine take_at 0 (.agg #[.int .i64 ag, .int .i64 af, .int .i64 az]) rfl (by kernel_rfl) (by kernel_rfl) (by kernel_rfl) (fun _ _ _ h => h) (Or.inl ⟨by rfl, ?_⟩) (by assumption) ?_
        · intro V hSV; have e0 := GA.out V hSV; have e1 := GB.out V hSV; have e2 := GC.out V hSV; go_simp
        simp only [Act.put, List.setIfInBounds_toArray, List.set_cons_zero, List.set_cons_succ]
        refine take_at 2 (.agg #[.int .i64 ag, .int .i64 af, .int .i64 az]) rfl (by kernel_rfl) (by kernel_rfl) (by kernel_rfl) (fun _ _ _ h => h) (Or.inl ⟨by rfl, ?_⟩) (by assumption) ?_
        · intro V hSV; have e0 := GA.out V hSV; have e1 := GB.out V hSV; have e2 := GC.out V hSV; go_simp
        simp only [Act.put, List.setIfInBounds_toArray, List.set_cons_zero, List.set_cons_succ]
        clear GA GB GC
        refine wpAnyH_ready (rs := [1]) (by kernel_rfl) (by simp) ?_
        refine AllReadyH.cons rfl (fun KK hK => ?_) AllReadyH.nil
        go_simp
        go_wp2_with (first | (go_at_call 12; refine (HRm.out _).mono ?_; rintro e Y1 ⟨rfl, hy1⟩))
        refine hK.out _ _ ?_ (fun hHeld1 => ?_)
        · exact below_step (by assumption) hy1
        clear hK KK
        refine wpAnyH_ready (rs := [3]) (by kernel_rfl) (by simp) ?_
        refine AllReadyH.cons rfl (fun KK hK => ?_) AllReadyH.nil
        go_simp
        go_wp2_with (first | (go_at_call 13; refine (HRr.out _).mono ?_; rintro e Y2 ⟨rfl, hy2⟩))
        refine hK.out _ _ ?_ (fun hHeld3 => ?_)
        · exact below_step (by assumption) hy2
        clear hK KK
        refine take_at 4 (.bool true) rfl (by kernel_rfl) (by kernel_rfl) (by kernel_rfl) (fun _ _ _ h => h) (Or.inl ⟨by rfl, ?_⟩) (by assumption) ?_
        · intro V hSV; go_simp
        simp only [Act.put, List.setIfInBounds_toArray, List.set_cons_zero, List.set_cons_succ]
        refine take_at 5 (.bool true) rfl (by kernel_rfl) (by kernel_rfl) (by kernel_rfl) (fun _ _ _ h => h) (Or.inl ⟨by rfl, ?_⟩) (by assumption) ?_
        · intro V hSV; go_simp
        simp only [Act.put, List.setIfInBounds_toArray, List.set_cons_zero, List.set_cons_succ]
        refine wpAnyH_ready (rs := [6]) (by kernel_rfl) (by simp) ?_
        refine AllReadyH.cons rfl (fun KK hK => ?_) AllReadyH.nil
        go_simp
        go_wp2_with (first | (go_at_call 14; refine (sure_ _).mono ?_; rintro e Y3 ⟨rfl, hy3⟩))
        refine hK.out _ _ ?_ (fun hHeld6 => ?_)
        · exact below_step (by assumption) hy3
        clear hK KK
        refine take_at 7 (.bool true) rfl (by kernel_rfl) (by kernel_rfl) (by kernel_rfl) (fun _ _ _ h => h) (Or.inl ⟨by rfl, ?_⟩) (by assumption) ?_
        · intro V hSV; go_simp
        simp only [Act.put, List.setIfInBounds_toArray, List.set_cons_zero, List.set_cons_succ]
        refine take_at 8 (.bool true) rfl (by kernel_rfl) (by kernel_rfl) (by kernel_rfl) (fun _ _ _ h => h) (Or.inl ⟨by rfl, ?_⟩) (by assumption) ?_
        · intro V hSV; go_simp
        simp only [Act.put, List.setIfInBounds_toArray, List.set_cons_zero, List.set_cons_succ]
        refine wpAnyH_done (by kernel_rfl) ?_ _
        refine NoPanic.normal ?_
        have HBe := Lib.hid (below_step HBw.out hHeld6)
        clear hHeld hHeld1 hHeld3 hHeld6 hy3 hy1 hy2
        go_wp2_with fail
        go_ret
        exact ⟨rfl, HBe.out⟩
end Go.Proofs.YthaihallfjjnpaaGreatDoor
