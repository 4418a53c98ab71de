/- The walk of CursorGoes. -/
import Derived.Test.YteeojhmdefhlmaaJGm
namespace Go.Proofs.Yteeojhmdefhlmaa
open Go.RowKit Go.Sort Go.Shelf

attribute [local go_sem] Oper.semAt_some
set_option maxRecDepth 100000 in
set_option maxHeartbeats 8000000 in
theorem goes_walk {w : World} {a : Option Addr} {c : Nat} {ks : List ByteArray} (hx : Tx w a ks) (hz : ∀ x ∈ ks, x.size ≤ 1000000000000000000) (r : Rg) (st : Int) :
    Calls Try.prog 4 #[.slice a ks.length c, rgV r, .int .i64 st] w fun e w' => e = .returned (.bool true) ∧ Below w.heap.size w w' := by
  obtain ⟨W0, hW0⟩ : ∃ W0, W0 = (w.alloc (.cells #[.string r.f, .string r.t, .bool r.hf, .bool r.ht, .bool r.pf, .bool r.pt] 23)).alloc (.cells #[.bool false] 4) := ⟨_, rfl⟩
  have HBW : Hid (Below w.heap.size w W0) := by show Below _ _ _; rw [hW0]; exact below_two w _ _
  have HR0 : Hid (RgAt W0 w.heap.size r ∧ Boxed W0 (w.heap.size + 1) 4 (.bool false) ∧ W0.heap.size = w.heap.size + 1 + 1) := by
    rw [hW0]; exact ⟨(rgAt_new w r _).on (below_alloc _ _) (by simp [go_sem]), two_alloc w _ _, by simp [go_sem]⟩
  have HGr := Lib.hid (grown_ (c := c) (hx.on HBW.out) hz)
  clear hx hz
  generalize ks.length = nk at *
  unfold rgV at *
  refine callsIn_wide.1 (callsIn_of_wp_marks (n := 9) Try.func4 rfl (wide_fn _) (wpIn_wide.2 ?_) wide_round)
  simp only [Try.ntmps4, List.size_toArray, List.length_cons, List.length_nil, Nat.reduceAdd, Nat.reduceSub, Array.replicate_succ, Array.replicate_zero, List.push_toArray, List.append_toArray, List.nil_append, List.cons_append]
  go_upto_region 1 with fail
  rw [← hW0]
  clear hW0
  generalize hn : w.heap.size = n at *
  have HNn := Lib.hid hn
  clear hn
  go_upto_region 4 with (first | (go_at_call 19; refine HGr.out.mono ?_; rintro e V0 ⟨p, v, rfl, l, HG⟩; clear HGr) | fail)
  have HB0 : Hid (Below n w V0) := HBW.out.trans (HG.out.1.below.mono (by have := HR0.out.2.2; omega))
  have HRV : Hid (∀ V, Below V0.heap.size V0 V → RgAt V n r ∧ Boxed V (n + 1) 4 (.bool false)) := fun V hV => by
    have h1 := below_step HG.out.1.below hV
    exact ⟨HR0.out.1.on h1 (by have := HR0.out.2.2; omega), (h1.block _ (blk_lt HR0.out.2.1)).trans HR0.out.2.1⟩
  have HNV : Hid (n + 1 < V0.heap.size) := by have h1 := HG.out.1.below.size; have h2 := HR0.out.2.2; show _ < _; omega
  clear HR0 HBW
  obtain ⟨⟨x0, x1, x2, x3, x4, x5⟩, _⟩ := HRV.out V0 (Below.refl _ _)
  go_upto_region 5 with fail
  obtain ⟨W1, hW1⟩ : ∃ W1, W1 = V0.alloc (.cells #[.string r.f, .string r.t, .bool r.hf, .bool r.ht, .bool r.pf, .bool r.pt] 24) := ⟨_, rfl⟩
  rw [← hW1]
  have HX1 : Hid (W1.heap[V0.heap.size]? = some (.cells #[.string r.f, .string r.t, .bool r.hf, .bool r.ht, .bool r.pf, .bool r.pt] 24 (0, 0)) ∧ Below V0.heap.size V0 W1) := by rw [hW1]; exact ⟨new_blk V0 _, below_alloc _ _⟩
  clear hW1 x0 x1 x2 x3 x4 x5
  obtain ⟨xb, hxb⟩ : ∃ xb, xb = V0.heap.size := ⟨_, rfl⟩
  rw [← hxb] at HX1
  rw [← hxb]
  have HXB := Lib.hid hxb
  clear hxb
  have HB01 : Hid (Below V0.heap.size V0 W1) := by rw [← HXB.out]; exact HX1.out.2
  have HRa := Lib.hid (rall_ (HG.out.1.on HB01.out).row (by have := HG.out.2; omega) r)
  unfold rgV at HRa
  obtain ⟨⟨x0, x1, x2, x3, x4, x5⟩, _⟩ := HRV.out W1 HB01.out
  go_upto_region 6 with (first | (go_at_call 20; refine HRa.out.mono ?_; rintro e U1 ⟨aw, cw, rfl, HRw⟩; clear HRa) | fail)
  obtain ⟨W2, hW2⟩ : ∃ W2, W2 = U1.alloc (.cells #[.slice aw (selR r l).length cw] 39) := ⟨_, rfl⟩
  rw [← hW2]
  have HX2 : Hid (Boxed W2 U1.heap.size 39 (.slice aw (selR r l).length cw) ∧ RowR W2 0 (.slice aw (selR r l).length cw) (selR r l) ∧ Below W1.heap.size W1 W2) := by
    rw [hW2]; exact ⟨new_blk U1 _, row_on (row_base HRw.out.1 (Nat.zero_le _)) (below_alloc _ _), below_step HRw.out.2 (below_alloc _ _)⟩
  clear hW2 x0 x1 x2 x3 x4 x5 HRw
  generalize U1.heap.size = wb at *
  have HXc : Hid (∀ V, Below W2.heap.size W2 V → RgAt V xb r) := fun V hV => by
    have := blkKeep hV (blkKeep HX2.out.2.2 HX1.out.1)
    exact ⟨cell_of this rfl, cell_of this rfl, cell_of this rfl, cell_of this rfl, cell_of this rfl, cell_of this rfl⟩
  have CA : Hid (∀ W, Calls Try.prog 21 #[.pointer (some ⟨p, 0, none⟩), rgV r] W fun e w' => ∃ bt br, e = .returned (.func (.func 37) #[] #[.pointer (some ⟨bt, 0, none⟩), .pointer (some ⟨br, 0, none⟩)]) ∧ Below W.heap.size W w' ∧ Hid (w'.heap[bt]? = some (.cells #[.pointer (some ⟨p, 0, none⟩)] 38 (0, 0)) ∧ w'.heap[br]? = some (.cells #[.string r.f, .string r.t, .bool r.hf, .bool r.ht, .bool r.pf, .bool r.pt] 24 (0, 0)))) := fun W => allB_ p r W
  have CB : Hid (∀ W, Calls Try.prog 22 #[.pointer (some ⟨p, 0, none⟩), rgV r] W fun e w' => ∃ bt br, e = .returned (.func (.func 40) #[] #[.pointer (some ⟨bt, 0, none⟩), .pointer (some ⟨br, 0, none⟩)]) ∧ Below W.heap.size W w' ∧ Hid (w'.heap[bt]? = some (.cells #[.pointer (some ⟨p, 0, none⟩)] 38 (0, 0)) ∧ w'.heap[br]? = some (.cells #[.string r.f, .string r.t, .bool r.hf, .bool r.ht, .bool r.pf, .bool r.pt] 24 (0, 0)))) := fun W => backB_ p r W
  unfold rgV at CA CB
  go_cut [11, 12] from 32 to 37 (fun f1 f2 wx => ∃ bt br bt2 br2, f1 = .func (.func 37) #[] #[.pointer (some ⟨bt, 0, none⟩), .pointer (some ⟨br, 0, none⟩)] ∧ f2 = .func (.func 40) #[] #[.pointer (some ⟨bt2, 0, none⟩), .pointer (some ⟨br2, 0, none⟩)] ∧ Hid (Below W2.heap.size W2 wx ∧ (wx.heap[bt]? = some (.cells #[.pointer (some ⟨p, 0, none⟩)] 38 (0, 0)) ∧ wx.heap[br]? = some (.cells #[.string r.f, .string r.t, .bool r.hf, .bool r.ht, .bool r.pf, .bool r.pt] 24 (0, 0))) ∧ (wx.heap[bt2]? = some (.cells #[.pointer (some ⟨p, 0, none⟩)] 38 (0, 0)) ∧ wx.heap[br2]? = some (.cells #[.string r.f, .string r.t, .bool r.hf, .bool r.ht, .bool r.pf, .bool r.pt] 24 (0, 0)))))
  case first =>
    have HK : Hid (∀ V, Below W2.heap.size W2 V → (RgAt V xb r ∧ Below W2.heap.size W2 V)) := fun V hV => ⟨HXc.out V hV, hV⟩
    refine wp_region_noPanic ?_
    go_region_held (fun V => (V.cell? ⟨xb, 0, none⟩ = some (.string r.f) ∧ V.cell? ⟨xb, 1, none⟩ = some (.string r.t) ∧ V.cell? ⟨xb, 2, none⟩ = some (.bool r.hf) ∧ V.cell? ⟨xb, 3, none⟩ = some (.bool r.ht) ∧ V.cell? ⟨xb, 4, none⟩ = some (.bool r.pf) ∧ V.cell? ⟨xb, 5, none⟩ = some (.bool r.pt)) ∧ Below W2.heap.size W2 V)
      (first | (exact HK.out _ (below_drew _)) | (exact HK.out _ (below_step (by assumption : RgAt _ xb r ∧ Below W2.heap.size W2 _).2 (by assumption))))
      (first
        | (go_at_call 21; refine (CA.out _).mono ?_; rintro e w1 ⟨bt, br, rfl, hb1, HBx⟩)
        | (go_at_call 22; refine (CB.out _).mono ?_; rintro e w2 ⟨bt2, br2, rfl, hb2, HBy⟩)
        | fail)
    refine NoPanic.normal ?_
    go_wp2_with fail
    go_meet
    case rel => exact ⟨bt, br, bt2, br2, rfl, rfl, (by assumption : RgAt w2 xb r ∧ Below W2.heap.size W2 w2).2, ⟨blkKeep hb2 HBx.out.1, blkKeep hb2 HBx.out.2⟩, HBy.out⟩
  case rest =>
    obtain ⟨bt, br, bt2, br2, rfl, rfl, HX⟩ := hcut
    obtain ⟨W4, rfl⟩ : ∃ W4, W4 = wc := ⟨_, rfl⟩
    obtain ⟨M, F, hwk, htr⟩ := HG.out.1.ex
    have HB04 : Hid (Below V0.heap.size V0 W4) := HB01.out.trans ((below_step HX2.out.2.2 HX.out.1).mono HB01.out.size)
    have HGs : Hid (Gs W4 M p l F r (n + 1) xb wb bt br bt2 br2 aw cw) :=
      ⟨(HRV.out W4 HB04.out).2, blkKeep (below_step HX2.out.2.2 HX.out.1) HX1.out.1, blkKeep HX.out.1 HX2.out.1, row_on HX2.out.2.1 HX.out.1, ⟨hwk.st.on HB04.out, htr.on HB04.out, HX.out.2.1.1, HX.out.2.1.2⟩, ⟨hwk.st.on HB04.out, htr.on HB04.out, HX.out.2.2.1, HX.out.2.2.2⟩⟩
    have HBw4 : Hid (Below n w W4) := HB0.out.trans (HB04.out.mono (by have := HNV.out; omega))
    have HN4 : Hid (n + 1 < W4.heap.size) := Nat.lt_of_lt_of_le HNV.out HB04.out.size
    have HLn : Hid (l.length ≤ 200) := HG.out.2
    clear hwk htr HG HB0 HRV HNV HX1 HXB HB01 HX2 HXc CA CB HX HB04
    have hfn := func_nil
    go_wp2_with fail
    clear hfn
    obtain ⟨s, hs⟩ : ∃ s, s = selR r l := ⟨_, rfl⟩
    have HSs := Lib.hid hs
    obtain ⟨W5, hW5⟩ : ∃ W5, W5 = W4.alloc (.cells #[.int .i64 0] 3) := ⟨_, rfl⟩
    rw [← hW5]
    have hs5 : W5.heap.size = W4.heap.size + 1 := by rw [hW5]; simp [go_sem]
    have hB45 : Below W4.heap.size W4 W5 := by rw [hW5]; exact below_alloc _ _
    have h01 : G1 W4 s [] W5 := ⟨hB45, by rw [hW5]; exact new_blk W4 _, List.nil_prefix⟩
    have hlt : ∀ k, (Own M k ∨ k = p ∨ k = bt ∨ k = br) → k < W4.heap.size := HGs.out.t1.lts
    have hlt2 : ∀ k, (Own M k ∨ k = p ∨ k = bt2 ∨ k = br2) → k < W4.heap.size := HGs.out.t2.lts
    have hseq := all_stops 8 (by omega) (HGs.out.t1.on hB45)
    rw [← hs] at hseq
    clear hW5 hs
    have hkb : ∀ (W : World) (ll : Nat) (o o' : Obj), W5.heap.size ≤ ll → W.heap[ll]? = some o → o.isCells = false → o.isWalk = false → KpT M p bt br W (W.putObj ll o') := fun W ll o o' h1 _ _ _ k hk => World.putObj_heap_other (by have := hlt k hk; omega)
    rw [← wpIn_wide (n := 9)]
    apply wpIn_rangeFunc_ownG (encs := encI) (Kp := KpT M p bt br) (S := fun ys => ys = s) (Sp := fun pre => pre <+: s) (N := l.length) (w0 := W5) wide_round (by omega) (gf := 37) (lb := #[.pointer (some ⟨bt, 0, none⟩), .pointer (some ⟨br, 0, none⟩)]) rfl (wide_fn _) (enters_of Try.func37 (by kernel_rfl) rfl) hseq kpT_t hkb (Below.refl _ _) (fun _ => rfl)
      (fun pre W => G1 W4 s pre W) (fun _ pre _ => ¬ pre <+: s)
      (fun pre W W' row hi hg hr => G1.grown hi hg (fun r e => by have := (hr r e).1; omega)) (fun cc pre W W' row hi hg hr => hi) h01
    case hassign =>
      intro ll x W KK hK
      unfold encI
      rw [fold2]
      simp only [List.setIfInBounds_toArray, List.set_cons_zero, List.set_cons_succ]
      gi_wp2
      exact hK
    case hbody =>
      rintro ll pre x W hi hlen
      have hlp : pre.length ≤ 1000 := by have := HLn.out; omega
      have hgs := HGs.out.on hi.old
      have c0 := hi.bx.cell
      have f0 := hi.bx.frozen
      have c1 := hgs.hwb.cell
      have c2 := hgs.hrb.cell
      have f2 := hgs.hrb.frozen
      rw [← HSs.out] at c1
      have HI := Lib.hid hi
      have HGW := Lib.hid hgs
      obtain ⟨j, hj⟩ : ∃ j, j = pre.length := ⟨_, rfl⟩
      rw [← hj] at c0
      have HJ := Lib.hid hj
      have hj9 : j ≤ 1000 := by omega
      have HN5 := Lib.hid HN4.out
      have hret : Hid (∀ BB, n + 1 < BB → ¬ (pre ++ [x]) <+: s → KeepsFrom BB W (W.setCell ⟨n + 1, 0, none⟩ (.bool false)) ∧ ¬ (pre ++ [x]) <+: s) := fun BB hBB h => ⟨⟨by rw [size_set]; exact Nat.le_refl _, fun k o hk hko _ => (heap_far _ (by omega)).trans hko⟩, h⟩
      have HP : Hid (∀ z, (s)[j]? = some z → z ≠ x → ¬ (pre ++ [x]) <+: s) := fun z h1 h2 h3 => by rw [pre_at HI.out.pr, ← HJ.out, h1] at h3; exact h2 (Option.some.inj h3)
      have HP2 : Hid ((s)[j]? = none → ¬ (pre ++ [x]) <+: s) := fun h1 h3 => by rw [pre_at HI.out.pr, ← HJ.out, h1] at h3; cases h3
      clear hi hgs hj
      by_cases hjs : j < s.length
      · obtain ⟨y, hy⟩ : ∃ y, (s)[j]? = some y := ⟨_, List.getElem?_eq_getElem (by exact hjs)⟩
        obtain ⟨g, hg, k1, k2⟩ := HGW.out.item (j := j) (y := y) (by rw [← HSs.out]; exact hy)
        rw [hg] at c1
        have HY := Lib.hid hy
        clear hy hg
        have hjl : ¬ (j : Int) ≥ (s.length : Int) := by omega
        have hjl2 : (j : Int) < (s.length : Int) := by omega
        obtain ⟨sl, hsl⟩ : ∃ sl, sl = s.length := ⟨_, rfl⟩
        rw [← hsl] at c1 hjl hjl2 hjs
        have HSL := Lib.hid hsl
        clear hsl
        obtain ⟨X1, X2⟩ := x
        obtain ⟨Y1, Y2⟩ := y
        dsimp only at *
        by_cases h1 : X1 = Y1
        · by_cases h2 : X2 = Y2
          · subst h1 h2
            have hwr := wraps_i64 ((j : Int) + 1) (by omega) (by omega)
            gi_wp2
            have hi := HI.out
            have hN := HN5.out
            have hss : (W.setCell ⟨W4.heap.size, 0, none⟩ (.int .i64 ((j : Int) + 1))).heap.size = W.heap.size := size_set _ _ _
            refine ⟨⟨by rw [hss]; exact Nat.le_refl _, fun k o hk hko _ => (heap_far _ (by omega)).trans hko⟩, fun k hk => heap_far _ (by have := hlt k hk; omega), ?_⟩
            refine ⟨⟨hi.old.os, hi.old.tape, hi.old.output, by rw [hss]; exact hi.old.size, fun k hk => (heap_far _ (by omega)).trans (hi.old.block k hk)⟩, ?_, (pre_at hi.pr).2 (by rw [← HJ.out]; exact HY.out)⟩
            have := hi.bx.set (.int .i64 ((j : Int) + 1))
            rw [List.length_append, ← HJ.out]
            exact this
          · have hne : (X2.toList == Y2.toList) = false := by simp only [beq_eq_false_iff_ne, ne_eq]; exact fun e => h2 (toList_inj e)
            subst h1
            gi_wp2
            exact hret.out _ (by have := HN5.out; omega) (HP.out _ HY.out (fun e => h2 (congrArg Prod.snd e).symm))
        · have hne : (X1.toList == Y1.toList) = false := by simp only [beq_eq_false_iff_ne, ne_eq]; exact fun e => h1 (toList_inj e)
          gi_wp2
          exact hret.out _ (by have := HN5.out; omega) (HP.out _ HY.out (fun e => h1 (congrArg Prod.fst e).symm))
      · have hjl : (j : Int) ≥ (s.length : Int) := by omega
        have HNo : Hid (¬ (pre ++ [x]) <+: s) := HP2.out (List.getElem?_eq_none (by omega))
        obtain ⟨sl, hsl⟩ : ∃ sl, sl = s.length := ⟨_, rfl⟩
        rw [← hsl] at c1 hjl
        clear hsl
        gi_wp2
        exact hret.out _ (by have := HN5.out; omega) HNo.out
    case hstop =>
      rintro D cc pre W hD hsp hix hK
      exact absurd hsp hix
    case hdone =>
      rintro D1 ys W hD1 hys hi hK1
      subst hys
      have HI1 := Lib.hid (And.intro hi hK1)
      clear hseq hkb h01 hi hK1 hB45
      have HS9 : Hid (ys.length ≤ 1000) := by
        have h1 := HLn.out
        show _ ≤ _
        rw [HSs.out]
        exact Nat.le_trans (List.length_filter_le _ _) (by omega)
      go_wp2_with fail
      obtain ⟨s, rfl⟩ : ∃ s, s = ys := ⟨_, rfl⟩
      obtain ⟨W7, hW7⟩ : ∃ W7, W7 = W.alloc (.cells #[.int .i64 0] 3) := ⟨_, rfl⟩
      rw [← hW7]
      have hs7 : W7.heap.size = W.heap.size + 1 := by rw [hW7]; simp [go_sem]
      have hB7 : Below W.heap.size W W7 := by rw [hW7]; exact below_alloc _ _
      have hmb : W4.heap.size < W.heap.size := HI1.out.1.bx.lt
      have hD7 : Hid (W7.heap[D1]? = some (.deferred (some []))) := blkKeep hB7 HI1.out.2
      have hB47 : Below W4.heap.size W4 W7 := below_step HI1.out.1.old hB7
      have h02 : G2 W4 W.heap.size s s.reverse [] W7 := ⟨hB47, blkKeep hB7 HI1.out.1.bx, by rw [hW7]; exact new_blk W _, List.nil_prefix⟩
      have hD1l : D1 < W.heap.size := blk_lt HI1.out.2
      clear hW7
      obtain ⟨mb, hmbe⟩ : ∃ mb, mb = W.heap.size := ⟨_, rfl⟩
      rw [← hmbe] at hs7 hmb h02 hD1l
      rw [← hmbe]
      clear hmbe hB7 HI1
      have hseq2 := back_stops 8 (by omega) (HGs.out.t2.on hB47)
      rw [← HSs.out] at hseq2
      have hkb2 : ∀ (W : World) (ll : Nat) (o o' : Obj), W7.heap.size ≤ ll → W.heap[ll]? = some o → o.isCells = false → o.isWalk = false → KpT M p bt2 br2 W (W.putObj ll o') := fun W ll o o' h1 _ _ _ k hk => World.putObj_heap_other (by have := hlt2 k hk; omega)
      rw [← wpIn_wide (n := 9)]
      apply wpIn_rangeFunc_ownG (encs := encI) (Kp := KpT M p bt2 br2) (S := fun ys => ys = s.reverse) (Sp := fun pre => pre <+: s.reverse) (N := l.length) (w0 := W7) wide_round (by omega) (gf := 40) (lb := #[.pointer (some ⟨bt2, 0, none⟩), .pointer (some ⟨br2, 0, none⟩)]) rfl (wide_fn _) (enters_of Try.func40 (by kernel_rfl) rfl) hseq2 kpT_t hkb2 (Below.refl _ _) (fun _ => rfl)
        (fun pre W => G2 W4 mb s s.reverse pre W ∧ W.heap[D1]? = some (.deferred (some []))) (fun _ pre _ => ¬ pre <+: s.reverse)
        (fun pre W W' row hi hg hr => ⟨G2.grown hi.1 hmb hg (fun r e => by have := (hr r e).1; omega), (hg.block D1 (blk_lt hi.2) (fun e => by have := (hr D1 e.symm).1; omega)).trans hi.2⟩) (fun cc pre W W' row hi hg hr => hi) ⟨h02, hD7.out⟩
      case hassign =>
        intro ll x W KK hK
        unfold encI
        rw [fold2]
        simp only [List.setIfInBounds_toArray, List.set_cons_zero, List.set_cons_succ]
        gi_wp2
        exact hK
      case hbody =>
        rintro ll pre x W ⟨hi, hid⟩ hlen
        have HID := Lib.hid hid
        clear hid
        have hlp : pre.length ≤ 1000 := by have := HLn.out; omega
        have hgs := HGs.out.on hi.old
        have c0 := hi.by'.cell
        have f0 := hi.by'.frozen
        have c1 := hgs.hwb.cell
        have c2 := hgs.hrb.cell
        have f2 := hgs.hrb.frozen
        rw [← HSs.out] at c1
        have HI := Lib.hid hi
        have HGW := Lib.hid hgs
        obtain ⟨j, hj⟩ : ∃ j, j = pre.length := ⟨_, rfl⟩
        rw [← hj] at c0
        have HJ := Lib.hid hj
        have hj9 : j ≤ 1000 := by omega
        have HN5 := Lib.hid HN4.out
        have hret : Hid (∀ BB, n + 1 < BB → ¬ (pre ++ [x]) <+: s.reverse → KeepsFrom BB W (W.setCell ⟨n + 1, 0, none⟩ (.bool false)) ∧ ¬ (pre ++ [x]) <+: s.reverse) := fun BB hBB h => ⟨⟨by rw [size_set]; exact Nat.le_refl _, fun k o hk hko _ => (heap_far _ (by omega)).trans hko⟩, h⟩
        have HP : Hid (∀ z, (s.reverse)[j]? = some z → z ≠ x → ¬ (pre ++ [x]) <+: s.reverse) := fun z h1 h2 h3 => by rw [pre_at HI.out.pr, ← HJ.out, h1] at h3; exact h2 (Option.some.inj h3)
        have HP2 : Hid ((s.reverse)[j]? = none → ¬ (pre ++ [x]) <+: s.reverse) := fun h1 h3 => by rw [pre_at HI.out.pr, ← HJ.out, h1] at h3; cases h3
        clear hi hgs hj
        by_cases hjs : j < s.length
        · obtain ⟨y, hy⟩ : ∃ y, (s.reverse)[j]? = some y := ⟨_, List.getElem?_eq_getElem (by rw [List.length_reverse]; exact hjs)⟩
          have hyr : s[s.length - 1 - j]? = some y := by rw [← List.getElem?_reverse hjs]; exact hy
          obtain ⟨g, hg, k1, k2⟩ := HGW.out.item (j := s.length - 1 - j) (y := y) (by rw [← HSs.out]; exact hyr)
          have hx1 : ((s.length : Int) - 1 - (j : Int)) = ((s.length - 1 - j : Nat) : Int) := by omega
          obtain ⟨q, hq⟩ : ∃ q, q = s.length - 1 - j := ⟨_, rfl⟩
          have hql : q < s.length := by omega
          rw [← hq] at k1 k2 hx1
          clear hq hyr
          have hw1 := wraps_i64 ((s.length : Int) - 1) (by have := HS9.out; omega) (by have := HS9.out; omega)
          have hw2 := wraps_i64 (q : Int) (by omega) (by have := HS9.out; omega)
          rw [hg] at c1
          have HY := Lib.hid hy
          clear hy hg
          have hjl : ¬ (j : Int) ≥ (s.length : Int) := by omega
          have hjl2 : (j : Int) < (s.length : Int) := by omega
          obtain ⟨sl, hsl⟩ : ∃ sl, sl = s.length := ⟨_, rfl⟩
          rw [← hsl] at c1 hjl hjl2 hw1 hx1 hjs hql
          have hql2 : (q : Int) < (sl : Int) := by omega
          have HSL := Lib.hid hsl
          clear hsl
          obtain ⟨X1, X2⟩ := x
          obtain ⟨Y1, Y2⟩ := y
          dsimp only at *
          by_cases h1 : X1 = Y1
          · by_cases h2 : X2 = Y2
            · subst h1 h2
              have hwr := wraps_i64 ((j : Int) + 1) (by omega) (by omega)
              gi_wp2
              have hi := HI.out
              have hN := HN5.out
              have hss : (W.setCell ⟨mb, 0, none⟩ (.int .i64 ((j : Int) + 1))).heap.size = W.heap.size := size_set _ _ _
              refine ⟨⟨by rw [hss]; exact Nat.le_refl _, fun k o hk hko _ => (heap_far _ (by omega)).trans hko⟩, fun k hk => heap_far _ (by have := hlt2 k hk; omega), ?_, (heap_far _ (by omega)).trans HID.out⟩
              refine ⟨⟨hi.old.os, hi.old.tape, hi.old.output, by rw [hss]; exact hi.old.size, fun k hk => (heap_far _ (by omega)).trans (hi.old.block k hk)⟩, (heap_far _ (by omega)).trans hi.bx, ?_, (pre_at hi.pr).2 (by rw [← HJ.out]; exact HY.out)⟩
              have := hi.by'.set (.int .i64 ((j : Int) + 1))
              rw [List.length_append, ← HJ.out]
              exact this
            · have hne : (X2.toList == Y2.toList) = false := by simp only [beq_eq_false_iff_ne, ne_eq]; exact fun e => h2 (toList_inj e)
              subst h1
              gi_wp2
              exact hret.out _ (by have := HN5.out; omega) (HP.out _ HY.out (fun e => h2 (congrArg Prod.snd e).symm))
          · have hne : (X1.toList == Y1.toList) = false := by simp only [beq_eq_false_iff_ne, ne_eq]; exact fun e => h1 (toList_inj e)
            gi_wp2
            exact hret.out _ (by have := HN5.out; omega) (HP.out _ HY.out (fun e => h1 (congrArg Prod.fst e).symm))
        · have hjl : (j : Int) ≥ (s.length : Int) := by omega
          have HNo : Hid (¬ (pre ++ [x]) <+: s.reverse) := HP2.out (List.getElem?_eq_none (by rw [List.length_reverse]; omega))
          obtain ⟨sl, hsl⟩ : ∃ sl, sl = s.length := ⟨_, rfl⟩
          rw [← hsl] at c1 hjl
          clear hsl
          gi_wp2
          exact hret.out _ (by have := HN5.out; omega) HNo.out
      case hstop =>
        rintro D cc pre W hD hsp hix hK
        exact absurd hsp hix
      case hdone =>
        rintro D2 ys W hD2 hys hi hK2
        subst hys
        have HI2 := Lib.hid (And.intro hi hK2)
        clear hseq2 hkb2 h02 hi hK2 hB47
        go_wp2_with fail
        obtain ⟨most, hm4, hme⟩ := most_of st
        rw [hme]
        clear hme
        obtain ⟨W9, hW9⟩ : ∃ W9, W9 = (W.alloc (.cells #[.int .i64 (most : Int)] 3)).alloc (.cells #[.int .i64 0] 3) := ⟨_, rfl⟩
        rw [← hW9]
        have hs9 : W9.heap.size = W.heap.size + 1 + 1 := by rw [hW9]; simp [go_sem]
        have hB9 : Below W.heap.size W W9 := by rw [hW9]; exact below_two _ _ _
        have hmW : mb < W.heap.size := HI2.out.1.1.by'.lt
        have hD1W : D1 < W.heap.size := blk_lt HI2.out.1.2
        have hD2W : D2 < W.heap.size := blk_lt HI2.out.2
        have hB49 : Below W4.heap.size W4 W9 := below_step HI2.out.1.1.old hB9
        have hrl : s.reverse.length = s.length := List.length_reverse
        have h03 : G3 W4 mb W.heap.size (W.heap.size + 1) s most 0 W9 := ⟨hB49, blkKeep hB9 HI2.out.1.1.bx, by have := blkKeep hB9 HI2.out.1.1.by'; rw [hrl] at this; exact this, by rw [hW9]; exact blkKeep (below_alloc _ _) (new_blk W _), by rw [hW9]; exact two_alloc W _ _⟩
        have hDD : W9.heap[D1]? = some (.deferred (some [])) ∧ W9.heap[D2]? = some (.deferred (some [])) := ⟨blkKeep hB9 HI2.out.1.2, blkKeep hB9 HI2.out.2⟩
        clear hW9 hB9 HI2 hD7
        obtain ⟨qb, hqb⟩ : ∃ qb, qb = W.heap.size := ⟨_, rfl⟩
        rw [← hqb] at hs9 hmW hD1W hD2W h03
        rw [← hqb]
        clear hqb
        have hseq3 := all_stops 8 (by omega) (HGs.out.t1.on hB49)
        rw [← HSs.out] at hseq3
        have hkb3 : ∀ (W : World) (ll : Nat) (o o' : Obj), W9.heap.size ≤ ll → W.heap[ll]? = some o → o.isCells = false → o.isWalk = false → KpT M p bt br W (W.putObj ll o') := fun W ll o o' h1 _ _ _ k hk => World.putObj_heap_other (by have := hlt k hk; omega)
        rw [← wpIn_wide (n := 9)]
        apply wpIn_rangeFunc_ownG (encs := encI) (Kp := KpT M p bt br) (S := fun ys => ys = s) (Sp := fun pre => pre <+: s) (N := l.length) (w0 := W9) wide_round (by omega) (gf := 37) (lb := #[.pointer (some ⟨bt, 0, none⟩), .pointer (some ⟨br, 0, none⟩)]) rfl (wide_fn _) (enters_of Try.func37 (by kernel_rfl) rfl) hseq3 kpT_t hkb3 (Below.refl _ _) (fun _ => rfl)
          (fun pre W => (G3 W4 mb qb (qb + 1) s most pre.length W ∧ pre.length ≤ most) ∧ W.heap[D1]? = some (.deferred (some [])) ∧ W.heap[D2]? = some (.deferred (some []))) (fun cc pre W => cc = .exit 4 ∧ pre.length = most + 1 ∧ G3 W4 mb qb (qb + 1) s most most W ∧ W.heap[D1]? = some (.deferred (some [])) ∧ W.heap[D2]? = some (.deferred (some [])))
          (fun pre W W' row hi hg hr => ⟨⟨G3.grown hi.1.1 (by omega) (by omega) (by omega) hg (fun r e => by have := (hr r e).1; omega), hi.1.2⟩, (hg.block D1 (blk_lt hi.2.1) (fun e => by have := (hr D1 e.symm).1; omega)).trans hi.2.1, (hg.block D2 (blk_lt hi.2.2) (fun e => by have := (hr D2 e.symm).1; omega)).trans hi.2.2⟩)
          (fun cc pre W W' row hi hg hr => ⟨hi.1, hi.2.1, G3.grown hi.2.2.1 (by omega) (by omega) (by omega) hg (fun r e => by have := (hr r e).1; omega), (hg.block D1 (blk_lt hi.2.2.2.1) (fun e => by have := (hr D1 e.symm).1; omega)).trans hi.2.2.2.1, (hg.block D2 (blk_lt hi.2.2.2.2) (fun e => by have := (hr D2 e.symm).1; omega)).trans hi.2.2.2.2⟩) ⟨⟨h03, Nat.zero_le _⟩, hDD⟩
        case hassign =>
          intro ll x W KK hK
          unfold encI
          rw [fold2]
          simp only [List.setIfInBounds_toArray, List.set_cons_zero, List.set_cons_succ]
          gi_wp2
          exact hK
        case hbody =>
          rintro ll pre x W ⟨⟨hi, hpm⟩, hid⟩ hlen
          have c0 := hi.bs.cell
          have f0 := hi.bs.frozen
          have c1 := hi.bq.cell
          have HI := Lib.hid (And.intro hi hid)
          obtain ⟨j, hj⟩ : ∃ j, j = pre.length := ⟨_, rfl⟩
          rw [← hj] at c0 hpm
          have HJ := Lib.hid hj
          clear hi hid hj
          by_cases hjm : j = most
          · subst hjm
            have heq : ((j : Int) == (j : Int)) = true := by simp
            gi_wp2
            exact ⟨KeepsFrom.refl _ _, rfl, by rw [List.length_append, ← HJ.out]; rfl, by have := HI.out.1; rw [← HJ.out] at this; exact this, HI.out.2⟩
          · have heq : ((j : Int) == (most : Int)) = false := by simp; omega
            have hwr := wraps_i64 ((j : Int) + 1) (by omega) (by omega)
            gi_wp2
            have hi := HI.out.1
            have hss : (W.setCell ⟨qb + 1, 0, none⟩ (.int .i64 ((j : Int) + 1))).heap.size = W.heap.size := size_set _ _ _
            refine ⟨⟨by rw [hss]; exact Nat.le_refl _, fun k o hk hko _ => (heap_far _ (by omega)).trans hko⟩, fun k hk => heap_far _ (by have := hlt k hk; omega), ⟨⟨⟨hi.old.os, hi.old.tape, hi.old.output, by rw [hss]; exact hi.old.size, fun k hk => (heap_far _ (by omega)).trans (hi.old.block k hk)⟩, (heap_far _ (by omega)).trans hi.bx, (heap_far _ (by omega)).trans hi.by', (heap_far _ (by omega)).trans hi.bq, ?_⟩, ?_⟩, (heap_far _ (by omega)).trans HI.out.2.1, (heap_far _ (by omega)).trans HI.out.2.2⟩
            · have := hi.bs.set (.int .i64 ((j : Int) + 1))
              rw [List.length_append, ← HJ.out]
              exact this
            · rw [List.length_append, ← HJ.out]
              show j + 1 ≤ most
              omega
        case hstop =>
          rintro D3 cc pre W hD3 hsp ⟨rfl, hpl, hi, hid⟩ hK3
          have hmin : most < s.length := by have := hsp.length_le; omega
          have HE : Hid (∃ sm, G3 W4 mb qb (qb + 1) s most sm W ∧ sm = min most s.length) := ⟨most, hi, by omega⟩
          have HIF := Lib.hid (And.intro hid hK3)
          clear hi hid hK3 hpl hmin
          rw [wpIn_wide]
          go_wp2_with fail
          obtain ⟨sm, hg3, hsm⟩ := HE.out
          obtain ⟨sl, hsl⟩ : ∃ sl, sl = s.length := ⟨_, rfl⟩
          have HSL := Lib.hid hsl
          have hgs := HGs.out.on hg3.old
          have k1 := hgs.hwb
          rw [← HSs.out, ← hsl] at k1
          have k2 := hg3.bx
          have k3 := hg3.by'
          rw [← hsl] at k2 k3 hsm
          have FN : Hid (∀ V, Below W.heap.size W V → V.cell? ⟨W4.heap.size, 0, none⟩ = some (.int .i64 sl)) := fun V hV => Boxed.cell (blkKeep hV k2)
          have FM : Hid (∀ V, Below W.heap.size W V → V.cell? ⟨mb, 0, none⟩ = some (.int .i64 sl)) := fun V hV => Boxed.cell (blkKeep hV k3)
          have FW : Hid (∀ V, Below W.heap.size W V → V.cell? ⟨wb, 0, none⟩ = some (.slice aw sl cw)) := fun V hV => Boxed.cell (blkKeep hV k1)
          have FSo : Hid (∀ V, Below W.heap.size W V → V.cell? ⟨qb + 1, 0, none⟩ = some (.int .i64 sm)) := fun V hV => Boxed.cell (blkKeep hV hg3.bs)
          have FQ : Hid (∀ V, Below W.heap.size W V → V.cell? ⟨qb, 0, none⟩ = some (.int .i64 most)) := fun V hV => Boxed.cell (blkKeep hV hg3.bq)
          have FX : Hid (∀ V, Below W.heap.size W V → RgAt V xb r) := fun V hV => (hgs.on hV).xc
          unfold RgAt at FX
          have HCt : Hid (Calls Try.prog 23 #[.pointer (some ⟨p, 0, none⟩), rgV r] W.drew fun e w' => e = .returned (.int .i64 sl) ∧ Below W.drew.heap.size W.drew w') := by
            have hd := hgs.on (below_drew W)
            have := count_ hd.t1.st hd.t1.tr (by have := HLn.out; omega) r
            rw [← HSs.out, ← hsl] at this
            exact this
          unfold rgV at HCt
          have HSu : Hid (∀ V, Calls Try.prog 18 #[] V fun e w' => e = .returned (.bool true) ∧ Below V.heap.size V w') := fun V => sure_ V
          have HRB : Hid (∀ V, Below W.heap.size W V → Boxed V (n + 1) 4 (.bool false)) := fun V hV => blkKeep hV hgs.hrb
          have HG3 := Lib.hid hg3
          have hmn : (if sl < most then (sl : Int) else (most : Int)) = (sm : Int) := by split <;> omega
          clear hg3 hgs k1 k2 k3 hsl hsm HE
          refine wp_region_noPanic ?_
          refine region_ph (A := fun _ => True) (e1 := 27) (B := (fun V => Below W.heap.size W V)) (e2 := 27) (C := (fun _ => True)) (by kernel_rfl) (⟨trivial, fun _ => below_drew W, fun _ => trivial⟩) (fun hSt => ?_)
          refine take_ph 0 (.int .i64 sl) [27] rfl (by kernel_rfl) (fun _ _ _ h => h) (Or.inl ⟨by rfl, ?_⟩) hSt (fun hSn => ?_)
          · rintro V ⟨_, hB, hC⟩; have hh := hB (by decide); have e0 := FN.out V hh; clear hB hC; go_simp
          clear hSt; rename Ph _ _ _ _ _ _ _ => hSt
          simp only [Act.put, List.setIfInBounds_toArray, List.set_cons_zero, List.set_cons_succ]
          refine take_ph 1 (.slice aw sl cw) [27] rfl (by kernel_rfl) (fun _ _ _ h => h) (Or.inl ⟨by rfl, ?_⟩) hSt (fun hSn => ?_)
          · rintro V ⟨_, hB, hC⟩; have hh := hB (by decide); have e0 := FW.out V hh; clear hB hC; go_simp
          clear hSt; rename Ph _ _ _ _ _ _ _ => hSt
          simp only [Act.put, List.setIfInBounds_toArray, List.set_cons_zero, List.set_cons_succ]
          refine take_ph 2 (.int .i64 sl) [] rfl (by kernel_rfl) (fun _ _ _ h => h) (Or.inl ⟨by rfl, ?_⟩) hSt (fun hSn => ?_)
          · intro V _; go_simp
          clear hSt; rename Ph _ _ _ _ _ _ _ => hSt
          simp only [Act.put, List.setIfInBounds_toArray, List.set_cons_zero, List.set_cons_succ]
          refine take_ph 3 (.bool true) [] rfl (by kernel_rfl) (fun _ _ _ h => h) (Or.inl ⟨by rfl, ?_⟩) hSt (fun hSn => ?_)
          · intro V _; go_simp
          clear hSt; rename Ph _ _ _ _ _ _ _ => hSt
          simp only [Act.put, List.setIfInBounds_toArray, List.set_cons_zero, List.set_cons_succ]
          refine take_ph 4 (.bool true) [] rfl (by kernel_rfl) (fun _ _ _ h => h) (Or.inl ⟨by rfl, ?_⟩) hSt (fun hSn => ?_)
          · intro V _; go_simp
          clear hSt; rename Ph _ _ _ _ _ _ _ => hSt
          simp only [Act.put, List.setIfInBounds_toArray, List.set_cons_zero, List.set_cons_succ]
          refine take_ph 5 (.int .i64 sl) [27] rfl (by kernel_rfl) (fun _ _ _ h => h) (Or.inl ⟨by rfl, ?_⟩) hSt (fun hSn => ?_)
          · rintro V ⟨_, hB, hC⟩; have hh := hB (by decide); have e0 := FM.out V hh; clear hB hC; go_simp
          clear hSt; rename Ph _ _ _ _ _ _ _ => hSt
          simp only [Act.put, List.setIfInBounds_toArray, List.set_cons_zero, List.set_cons_succ]
          refine take_ph 6 (.slice aw sl cw) [27] rfl (by kernel_rfl) (fun _ _ _ h => h) (Or.inl ⟨by rfl, ?_⟩) hSt (fun hSn => ?_)
          · rintro V ⟨_, hB, hC⟩; have hh := hB (by decide); have e0 := FW.out V hh; clear hB hC; go_simp
          clear hSt; rename Ph _ _ _ _ _ _ _ => hSt
          simp only [Act.put, List.setIfInBounds_toArray, List.set_cons_zero, List.set_cons_succ]
          refine take_ph 7 (.int .i64 sl) [] rfl (by kernel_rfl) (fun _ _ _ h => h) (Or.inl ⟨by rfl, ?_⟩) hSt (fun hSn => ?_)
          · intro V _; go_simp
          clear hSt; rename Ph _ _ _ _ _ _ _ => hSt
          simp only [Act.put, List.setIfInBounds_toArray, List.set_cons_zero, List.set_cons_succ]
          refine take_ph 8 (.bool true) [] rfl (by kernel_rfl) (fun _ _ _ h => h) (Or.inl ⟨by rfl, ?_⟩) hSt (fun hSn => ?_)
          · intro V _; go_simp
          clear hSt; rename Ph _ _ _ _ _ _ _ => hSt
          simp only [Act.put, List.setIfInBounds_toArray, List.set_cons_zero, List.set_cons_succ]
          refine take_ph 9 (.bool true) [] rfl (by kernel_rfl) (fun _ _ _ h => h) (Or.inl ⟨by rfl, ?_⟩) hSt (fun hSn => ?_)
          · intro V _; go_simp
          clear hSt; rename Ph _ _ _ _ _ _ _ => hSt
          simp only [Act.put, List.setIfInBounds_toArray, List.set_cons_zero, List.set_cons_succ]
          refine take_ph 10 (.bool true) [] rfl (by kernel_rfl) (fun _ _ _ h => h) (Or.inl ⟨by rfl, ?_⟩) hSt (fun hSn => ?_)
          · intro V _; go_simp
          clear hSt; rename Ph _ _ _ _ _ _ _ => hSt
          simp only [Act.put, List.setIfInBounds_toArray, List.set_cons_zero, List.set_cons_succ]
          refine take_ph 11 (.int .i64 sm) [27] rfl (by kernel_rfl) (fun _ _ _ h => h) (Or.inl ⟨by rfl, ?_⟩) hSt (fun hSn => ?_)
          · rintro V ⟨_, hB, hC⟩; have hh := hB (by decide); have e0 := FSo.out V hh; clear hB hC; go_simp
          clear hSt; rename Ph _ _ _ _ _ _ _ => hSt
          simp only [Act.put, List.setIfInBounds_toArray, List.set_cons_zero, List.set_cons_succ]
          refine take_ph 12 (.int .i64 most) [27] rfl (by kernel_rfl) (fun _ _ _ h => h) (Or.inl ⟨by rfl, ?_⟩) hSt (fun hSn => ?_)
          · rintro V ⟨_, hB, hC⟩; have hh := hB (by decide); have e0 := FQ.out V hh; clear hB hC; go_simp
          clear hSt; rename Ph _ _ _ _ _ _ _ => hSt
          simp only [Act.put, List.setIfInBounds_toArray, List.set_cons_zero, List.set_cons_succ]
          refine take_ph 13 (.int .i64 sl) [27] rfl (by kernel_rfl) (fun _ _ _ h => h) (Or.inl ⟨by rfl, ?_⟩) hSt (fun hSn => ?_)
          · rintro V ⟨_, hB, hC⟩; have hh := hB (by decide); have e0 := FN.out V hh; clear hB hC; go_simp
          clear hSt; rename Ph _ _ _ _ _ _ _ => hSt
          simp only [Act.put, List.setIfInBounds_toArray, List.set_cons_zero, List.set_cons_succ]
          refine take_ph 14 (.int .i64 sm) [] rfl (by kernel_rfl) (fun _ _ _ h => h) (Or.inl ⟨by rfl, ?_⟩) hSt (fun hSn => ?_)
          · intro V _; go_simp
          clear hSt; rename Ph _ _ _ _ _ _ _ => hSt
          simp only [Act.put, List.setIfInBounds_toArray, List.set_cons_zero, List.set_cons_succ]
          refine take_ph 15 (.bool true) [] rfl (by kernel_rfl) (fun _ _ _ h => h) (Or.inl ⟨by rfl, ?_⟩) hSt (fun hSn => ?_)
          · intro V _; go_simp
          clear hSt; rename Ph _ _ _ _ _ _ _ => hSt
          simp only [Act.put, List.setIfInBounds_toArray, List.set_cons_zero, List.set_cons_succ]
          refine take_ph 16 (.bool true) [] rfl (by kernel_rfl) (fun _ _ _ h => h) (Or.inl ⟨by rfl, ?_⟩) hSt (fun hSn => ?_)
          · intro V _; go_simp
          clear hSt; rename Ph _ _ _ _ _ _ _ => hSt
          simp only [Act.put, List.setIfInBounds_toArray, List.set_cons_zero, List.set_cons_succ]
          refine take_ph 17 (.bool true) [] rfl (by kernel_rfl) (fun _ _ _ h => h) (Or.inl ⟨by rfl, ?_⟩) hSt (fun hSn => ?_)
          · intro V _; go_simp
          clear hSt; rename Ph _ _ _ _ _ _ _ => hSt
          simp only [Act.put, List.setIfInBounds_toArray, List.set_cons_zero, List.set_cons_succ]
          refine take_ph 18 (.pointer (some ⟨p, 0, none⟩)) [] rfl (by kernel_rfl) (fun _ _ _ h => h) (Or.inl ⟨by rfl, ?_⟩) hSt (fun hSn => ?_)
          · intro V _; go_simp
          clear hSt; rename Ph _ _ _ _ _ _ _ => hSt
          simp only [Act.put, List.setIfInBounds_toArray, List.set_cons_zero, List.set_cons_succ]
          refine take_ph 19 (.agg #[.string r.f, .string r.t, .bool r.hf, .bool r.ht, .bool r.pf, .bool r.pt]) [27] rfl (by kernel_rfl) (fun _ _ _ h => h) (Or.inl ⟨by rfl, ?_⟩) hSt (fun hSn => ?_)
          · rintro V ⟨_, hB, hC⟩; have hh := hB (by decide); have e0 := FX.out V hh; clear hB hC; go_simp
          clear hSt; rename Ph _ _ _ _ _ _ _ => hSt
          simp only [Act.put, List.setIfInBounds_toArray, List.set_cons_zero, List.set_cons_succ]
          refine take_ph 21 (.int .i64 sl) [27] rfl (by kernel_rfl) (fun _ _ _ h => h) (Or.inl ⟨by rfl, ?_⟩) hSt (fun hSn => ?_)
          · rintro V ⟨_, hB, hC⟩; have hh := hB (by decide); have e0 := FN.out V hh; clear hB hC; go_simp
          clear hSt; rename Ph _ _ _ _ _ _ _ => hSt
          simp only [Act.put, List.setIfInBounds_toArray, List.set_cons_zero, List.set_cons_succ]
          refine ready_call_ph 20 rfl (by kernel_rfl) (fun KK hK => ?_)
          go_simp
          go_wp2_with (first | (go_at_call 23; refine HCt.out.mono ?_; rintro e V1 ⟨rfl, hb1⟩))
          refine hK.out _ _ ?_ (fun hSn => ?_)
          · exact ⟨trivial, fun _ => below_step (below_drew W) hb1, fun _ => trivial⟩
          clear hK KK hSt; rename Ph _ _ _ _ _ _ _ => hSt
          refine take_ph 22 (.bool true) [] rfl (by kernel_rfl) (fun _ _ _ h => h) (Or.inl ⟨by rfl, ?_⟩) hSt (fun hSn => ?_)
          · intro V _; go_simp
          clear hSt; rename Ph _ _ _ _ _ _ _ => hSt
          simp only [Act.put, List.setIfInBounds_toArray, List.set_cons_zero, List.set_cons_succ]
          refine take_ph 23 (.bool true) [] rfl (by kernel_rfl) (fun _ _ _ h => h) (Or.inl ⟨by rfl, ?_⟩) hSt (fun hSn => ?_)
          · intro V _; go_simp
          clear hSt; rename Ph _ _ _ _ _ _ _ => hSt
          simp only [Act.put, List.setIfInBounds_toArray, List.set_cons_zero, List.set_cons_succ]
          refine take_ph 24 (.bool true) [] rfl (by kernel_rfl) (fun _ _ _ h => h) (Or.inl ⟨by rfl, ?_⟩) hSt (fun hSn => ?_)
          · intro V _; go_simp
          clear hSt; rename Ph _ _ _ _ _ _ _ => hSt
          simp only [Act.put, List.setIfInBounds_toArray, List.set_cons_zero, List.set_cons_succ]
          refine ready_call_ph 25 rfl (by kernel_rfl) (fun KK hK => ?_)
          go_simp
          go_wp2_with (first | (go_at_call 18; refine (HSu.out _).mono ?_; rintro e V2 ⟨rfl, hb2⟩))
          refine hK.out _ _ ?_ (fun hSn => ?_)
          · exact ⟨trivial, fun _ => below_step (below_step (below_drew W) hb1) hb2, fun _ => trivial⟩
          clear hK KK hSt; rename Ph _ _ _ _ _ _ _ => hSt
          refine take_ph 26 (.bool true) [] rfl (by kernel_rfl) (fun _ _ _ h => h) (Or.inl ⟨by rfl, ?_⟩) hSt (fun hSn => ?_)
          · intro V _; go_simp
          clear hSt; rename Ph _ _ _ _ _ _ _ => hSt
          simp only [Act.put, List.setIfInBounds_toArray, List.set_cons_zero, List.set_cons_succ]
          have hBV : Below W.heap.size W V2 := below_step (below_step (below_drew W) hb1) hb2
          have hstr := store_box (HRB.out V2 hBV) true
          refine ready_store_ph 27 rfl (by kernel_rfl) rfl 4 _ _ rfl _ _ rfl rfl (hstr) (⟨trivial, fun h => absurd (show true = false from h) (by decide), fun _ => trivial⟩) (fun hSn => ?_)
          clear hSt; rename Ph _ _ _ _ _ _ _ => hSt
          simp only [Act.put]
          refine done_ph (by kernel_rfl) ?_ _
          clear hSt
          refine NoPanic.normal ?_
          have HBV := Lib.hid hBV
          clear hb1 hb2 hstr hBV FN FM FW FSo FQ FX HCt HSu hmn
          go_wp2_with fail
          have hN := HN4.out
          have hW4 := HG3.out.old.size
          have hbf : Below n w V2 := HBw4.out.trans ((HG3.out.old.trans (HBV.out.mono hW4)).mono (by omega))
          have hx1 := blkKeep HBV.out HIF.out.1.1
          have hx2 := blkKeep HBV.out HIF.out.1.2
          have hx3 := blkKeep HBV.out HIF.out.2
          refine goes_end HNn.out ((heap_far _ (by omega)).trans hx1) ((heap_far _ (by omega)).trans hx2) ((heap_far _ (by omega)).trans hx3) (Boxed.set _ (HRB.out V2 HBV.out)) (hbf.setCell (p := ⟨n + 1, 0, none⟩) (by show n ≤ n + 1; omega) _) ?_ ?_ ?_ rfl rfl
          · omega
          · omega
          · omega
        case hdone =>
          rintro D3 ys W hD3 hys ⟨⟨hi, hpm⟩, hid⟩ hK3
          subst hys
          have HE : Hid (∃ sm, G3 W4 mb qb (qb + 1) ys most sm W ∧ sm = min most ys.length) := ⟨_, hi, by omega⟩
          have HIF := Lib.hid (And.intro hid hK3)
          clear hi hid hK3 hpm
          obtain ⟨s, rfl⟩ : ∃ s, s = ys := ⟨_, rfl⟩
          go_wp2_with fail
          obtain ⟨sm, hg3, hsm⟩ := HE.out
          obtain ⟨sl, hsl⟩ : ∃ sl, sl = s.length := ⟨_, rfl⟩
          have HSL := Lib.hid hsl
          have hgs := HGs.out.on hg3.old
          have k1 := hgs.hwb
          rw [← HSs.out, ← hsl] at k1
          have k2 := hg3.bx
          have k3 := hg3.by'
          rw [← hsl] at k2 k3 hsm
          have FN : Hid (∀ V, Below W.heap.size W V → V.cell? ⟨W4.heap.size, 0, none⟩ = some (.int .i64 sl)) := fun V hV => Boxed.cell (blkKeep hV k2)
          have FM : Hid (∀ V, Below W.heap.size W V → V.cell? ⟨mb, 0, none⟩ = some (.int .i64 sl)) := fun V hV => Boxed.cell (blkKeep hV k3)
          have FW : Hid (∀ V, Below W.heap.size W V → V.cell? ⟨wb, 0, none⟩ = some (.slice aw sl cw)) := fun V hV => Boxed.cell (blkKeep hV k1)
          have FSo : Hid (∀ V, Below W.heap.size W V → V.cell? ⟨qb + 1, 0, none⟩ = some (.int .i64 sm)) := fun V hV => Boxed.cell (blkKeep hV hg3.bs)
          have FQ : Hid (∀ V, Below W.heap.size W V → V.cell? ⟨qb, 0, none⟩ = some (.int .i64 most)) := fun V hV => Boxed.cell (blkKeep hV hg3.bq)
          have FX : Hid (∀ V, Below W.heap.size W V → RgAt V xb r) := fun V hV => (hgs.on hV).xc
          unfold RgAt at FX
          have HCt : Hid (Calls Try.prog 23 #[.pointer (some ⟨p, 0, none⟩), rgV r] W.drew fun e w' => e = .returned (.int .i64 sl) ∧ Below W.drew.heap.size W.drew w') := by
            have hd := hgs.on (below_drew W)
            have := count_ hd.t1.st hd.t1.tr (by have := HLn.out; omega) r
            rw [← HSs.out, ← hsl] at this
            exact this
          unfold rgV at HCt
          have HSu : Hid (∀ V, Calls Try.prog 18 #[] V fun e w' => e = .returned (.bool true) ∧ Below V.heap.size V w') := fun V => sure_ V
          have HRB : Hid (∀ V, Below W.heap.size W V → Boxed V (n + 1) 4 (.bool false)) := fun V hV => blkKeep hV hgs.hrb
          have HG3 := Lib.hid hg3
          have hmn : (if sl < most then (sl : Int) else (most : Int)) = (sm : Int) := by split <;> omega
          clear hg3 hgs k1 k2 k3 hsl hsm HE
          refine wp_region_noPanic ?_
          refine region_ph (A := fun _ => True) (e1 := 27) (B := (fun V => Below W.heap.size W V)) (e2 := 27) (C := (fun _ => True)) (by kernel_rfl) (⟨trivial, fun _ => below_drew W, fun _ => trivial⟩) (fun hSt => ?_)
          refine take_ph 0 (.int .i64 sl) [27] rfl (by kernel_rfl) (fun _ _ _ h => h) (Or.inl ⟨by rfl, ?_⟩) hSt (fun hSn => ?_)
          · rintro V ⟨_, hB, hC⟩; have hh := hB (by decide); have e0 := FN.out V hh; clear hB hC; go_simp
          clear hSt; rename Ph _ _ _ _ _ _ _ => hSt
          simp only [Act.put, List.setIfInBounds_toArray, List.set_cons_zero, List.set_cons_succ]
          refine take_ph 1 (.slice aw sl cw) [27] rfl (by kernel_rfl) (fun _ _ _ h => h) (Or.inl ⟨by rfl, ?_⟩) hSt (fun hSn => ?_)
          · rintro V ⟨_, hB, hC⟩; have hh := hB (by decide); have e0 := FW.out V hh; clear hB hC; go_simp
          clear hSt; rename Ph _ _ _ _ _ _ _ => hSt
          simp only [Act.put, List.setIfInBounds_toArray, List.set_cons_zero, List.set_cons_succ]
          refine take_ph 2 (.int .i64 sl) [] rfl (by kernel_rfl) (fun _ _ _ h => h) (Or.inl ⟨by rfl, ?_⟩) hSt (fun hSn => ?_)
          · intro V _; go_simp
          clear hSt; rename Ph _ _ _ _ _ _ _ => hSt
          simp only [Act.put, List.setIfInBounds_toArray, List.set_cons_zero, List.set_cons_succ]
          refine take_ph 3 (.bool true) [] rfl (by kernel_rfl) (fun _ _ _ h => h) (Or.inl ⟨by rfl, ?_⟩) hSt (fun hSn => ?_)
          · intro V _; go_simp
          clear hSt; rename Ph _ _ _ _ _ _ _ => hSt
          simp only [Act.put, List.setIfInBounds_toArray, List.set_cons_zero, List.set_cons_succ]
          refine take_ph 4 (.bool true) [] rfl (by kernel_rfl) (fun _ _ _ h => h) (Or.inl ⟨by rfl, ?_⟩) hSt (fun hSn => ?_)
          · intro V _; go_simp
          clear hSt; rename Ph _ _ _ _ _ _ _ => hSt
          simp only [Act.put, List.setIfInBounds_toArray, List.set_cons_zero, List.set_cons_succ]
          refine take_ph 5 (.int .i64 sl) [27] rfl (by kernel_rfl) (fun _ _ _ h => h) (Or.inl ⟨by rfl, ?_⟩) hSt (fun hSn => ?_)
          · rintro V ⟨_, hB, hC⟩; have hh := hB (by decide); have e0 := FM.out V hh; clear hB hC; go_simp
          clear hSt; rename Ph _ _ _ _ _ _ _ => hSt
          simp only [Act.put, List.setIfInBounds_toArray, List.set_cons_zero, List.set_cons_succ]
          refine take_ph 6 (.slice aw sl cw) [27] rfl (by kernel_rfl) (fun _ _ _ h => h) (Or.inl ⟨by rfl, ?_⟩) hSt (fun hSn => ?_)
          · rintro V ⟨_, hB, hC⟩; have hh := hB (by decide); have e0 := FW.out V hh; clear hB hC; go_simp
          clear hSt; rename Ph _ _ _ _ _ _ _ => hSt
          simp only [Act.put, List.setIfInBounds_toArray, List.set_cons_zero, List.set_cons_succ]
          refine take_ph 7 (.int .i64 sl) [] rfl (by kernel_rfl) (fun _ _ _ h => h) (Or.inl ⟨by rfl, ?_⟩) hSt (fun hSn => ?_)
          · intro V _; go_simp
          clear hSt; rename Ph _ _ _ _ _ _ _ => hSt
          simp only [Act.put, List.setIfInBounds_toArray, List.set_cons_zero, List.set_cons_succ]
          refine take_ph 8 (.bool true) [] rfl (by kernel_rfl) (fun _ _ _ h => h) (Or.inl ⟨by rfl, ?_⟩) hSt (fun hSn => ?_)
          · intro V _; go_simp
          clear hSt; rename Ph _ _ _ _ _ _ _ => hSt
          simp only [Act.put, List.setIfInBounds_toArray, List.set_cons_zero, List.set_cons_succ]
          refine take_ph 9 (.bool true) [] rfl (by kernel_rfl) (fun _ _ _ h => h) (Or.inl ⟨by rfl, ?_⟩) hSt (fun hSn => ?_)
          · intro V _; go_simp
          clear hSt; rename Ph _ _ _ _ _ _ _ => hSt
          simp only [Act.put, List.setIfInBounds_toArray, List.set_cons_zero, List.set_cons_succ]
          refine take_ph 10 (.bool true) [] rfl (by kernel_rfl) (fun _ _ _ h => h) (Or.inl ⟨by rfl, ?_⟩) hSt (fun hSn => ?_)
          · intro V _; go_simp
          clear hSt; rename Ph _ _ _ _ _ _ _ => hSt
          simp only [Act.put, List.setIfInBounds_toArray, List.set_cons_zero, List.set_cons_succ]
          refine take_ph 11 (.int .i64 sm) [27] rfl (by kernel_rfl) (fun _ _ _ h => h) (Or.inl ⟨by rfl, ?_⟩) hSt (fun hSn => ?_)
          · rintro V ⟨_, hB, hC⟩; have hh := hB (by decide); have e0 := FSo.out V hh; clear hB hC; go_simp
          clear hSt; rename Ph _ _ _ _ _ _ _ => hSt
          simp only [Act.put, List.setIfInBounds_toArray, List.set_cons_zero, List.set_cons_succ]
          refine take_ph 12 (.int .i64 most) [27] rfl (by kernel_rfl) (fun _ _ _ h => h) (Or.inl ⟨by rfl, ?_⟩) hSt (fun hSn => ?_)
          · rintro V ⟨_, hB, hC⟩; have hh := hB (by decide); have e0 := FQ.out V hh; clear hB hC; go_simp
          clear hSt; rename Ph _ _ _ _ _ _ _ => hSt
          simp only [Act.put, List.setIfInBounds_toArray, List.set_cons_zero, List.set_cons_succ]
          refine take_ph 13 (.int .i64 sl) [27] rfl (by kernel_rfl) (fun _ _ _ h => h) (Or.inl ⟨by rfl, ?_⟩) hSt (fun hSn => ?_)
          · rintro V ⟨_, hB, hC⟩; have hh := hB (by decide); have e0 := FN.out V hh; clear hB hC; go_simp
          clear hSt; rename Ph _ _ _ _ _ _ _ => hSt
          simp only [Act.put, List.setIfInBounds_toArray, List.set_cons_zero, List.set_cons_succ]
          refine take_ph 14 (.int .i64 sm) [] rfl (by kernel_rfl) (fun _ _ _ h => h) (Or.inl ⟨by rfl, ?_⟩) hSt (fun hSn => ?_)
          · intro V _; go_simp
          clear hSt; rename Ph _ _ _ _ _ _ _ => hSt
          simp only [Act.put, List.setIfInBounds_toArray, List.set_cons_zero, List.set_cons_succ]
          refine take_ph 15 (.bool true) [] rfl (by kernel_rfl) (fun _ _ _ h => h) (Or.inl ⟨by rfl, ?_⟩) hSt (fun hSn => ?_)
          · intro V _; go_simp
          clear hSt; rename Ph _ _ _ _ _ _ _ => hSt
          simp only [Act.put, List.setIfInBounds_toArray, List.set_cons_zero, List.set_cons_succ]
          refine take_ph 16 (.bool true) [] rfl (by kernel_rfl) (fun _ _ _ h => h) (Or.inl ⟨by rfl, ?_⟩) hSt (fun hSn => ?_)
          · intro V _; go_simp
          clear hSt; rename Ph _ _ _ _ _ _ _ => hSt
          simp only [Act.put, List.setIfInBounds_toArray, List.set_cons_zero, List.set_cons_succ]
          refine take_ph 17 (.bool true) [] rfl (by kernel_rfl) (fun _ _ _ h => h) (Or.inl ⟨by rfl, ?_⟩) hSt (fun hSn => ?_)
          · intro V _; go_simp
          clear hSt; rename Ph _ _ _ _ _ _ _ => hSt
          simp only [Act.put, List.setIfInBounds_toArray, List.set_cons_zero, List.set_cons_succ]
          refine take_ph 18 (.pointer (some ⟨p, 0, none⟩)) [] rfl (by kernel_rfl) (fun _ _ _ h => h) (Or.inl ⟨by rfl, ?_⟩) hSt (fun hSn => ?_)
          · intro V _; go_simp
          clear hSt; rename Ph _ _ _ _ _ _ _ => hSt
          simp only [Act.put, List.setIfInBounds_toArray, List.set_cons_zero, List.set_cons_succ]
          refine take_ph 19 (.agg #[.string r.f, .string r.t, .bool r.hf, .bool r.ht, .bool r.pf, .bool r.pt]) [27] rfl (by kernel_rfl) (fun _ _ _ h => h) (Or.inl ⟨by rfl, ?_⟩) hSt (fun hSn => ?_)
          · rintro V ⟨_, hB, hC⟩; have hh := hB (by decide); have e0 := FX.out V hh; clear hB hC; go_simp
          clear hSt; rename Ph _ _ _ _ _ _ _ => hSt
          simp only [Act.put, List.setIfInBounds_toArray, List.set_cons_zero, List.set_cons_succ]
          refine take_ph 21 (.int .i64 sl) [27] rfl (by kernel_rfl) (fun _ _ _ h => h) (Or.inl ⟨by rfl, ?_⟩) hSt (fun hSn => ?_)
          · rintro V ⟨_, hB, hC⟩; have hh := hB (by decide); have e0 := FN.out V hh; clear hB hC; go_simp
          clear hSt; rename Ph _ _ _ _ _ _ _ => hSt
          simp only [Act.put, List.setIfInBounds_toArray, List.set_cons_zero, List.set_cons_succ]
          refine ready_call_ph 20 rfl (by kernel_rfl) (fun KK hK => ?_)
          go_simp
          go_wp2_with (first | (go_at_call 23; refine HCt.out.mono ?_; rintro e V1 ⟨rfl, hb1⟩))
          refine hK.out _ _ ?_ (fun hSn => ?_)
          · exact ⟨trivial, fun _ => below_step (below_drew W) hb1, fun _ => trivial⟩
          clear hK KK hSt; rename Ph _ _ _ _ _ _ _ => hSt
          refine take_ph 22 (.bool true) [] rfl (by kernel_rfl) (fun _ _ _ h => h) (Or.inl ⟨by rfl, ?_⟩) hSt (fun hSn => ?_)
          · intro V _; go_simp
          clear hSt; rename Ph _ _ _ _ _ _ _ => hSt
          simp only [Act.put, List.setIfInBounds_toArray, List.set_cons_zero, List.set_cons_succ]
          refine take_ph 23 (.bool true) [] rfl (by kernel_rfl) (fun _ _ _ h => h) (Or.inl ⟨by rfl, ?_⟩) hSt (fun hSn => ?_)
          · intro V _; go_simp
          clear hSt; rename Ph _ _ _ _ _ _ _ => hSt
          simp only [Act.put, List.setIfInBounds_toArray, List.set_cons_zero, List.set_cons_succ]
          refine take_ph 24 (.bool true) [] rfl (by kernel_rfl) (fun _ _ _ h => h) (Or.inl ⟨by rfl, ?_⟩) hSt (fun hSn => ?_)
          · intro V _; go_simp
          clear hSt; rename Ph _ _ _ _ _ _ _ => hSt
          simp only [Act.put, List.setIfInBounds_toArray, List.set_cons_zero, List.set_cons_succ]
          refine ready_call_ph 25 rfl (by kernel_rfl) (fun KK hK => ?_)
          go_simp
          go_wp2_with (first | (go_at_call 18; refine (HSu.out _).mono ?_; rintro e V2 ⟨rfl, hb2⟩))
          refine hK.out _ _ ?_ (fun hSn => ?_)
          · exact ⟨trivial, fun _ => below_step (below_step (below_drew W) hb1) hb2, fun _ => trivial⟩
          clear hK KK hSt; rename Ph _ _ _ _ _ _ _ => hSt
          refine take_ph 26 (.bool true) [] rfl (by kernel_rfl) (fun _ _ _ h => h) (Or.inl ⟨by rfl, ?_⟩) hSt (fun hSn => ?_)
          · intro V _; go_simp
          clear hSt; rename Ph _ _ _ _ _ _ _ => hSt
          simp only [Act.put, List.setIfInBounds_toArray, List.set_cons_zero, List.set_cons_succ]
          have hBV : Below W.heap.size W V2 := below_step (below_step (below_drew W) hb1) hb2
          have hstr := store_box (HRB.out V2 hBV) true
          refine ready_store_ph 27 rfl (by kernel_rfl) rfl 4 _ _ rfl _ _ rfl rfl (hstr) (⟨trivial, fun h => absurd (show true = false from h) (by decide), fun _ => trivial⟩) (fun hSn => ?_)
          clear hSt; rename Ph _ _ _ _ _ _ _ => hSt
          simp only [Act.put]
          refine done_ph (by kernel_rfl) ?_ _
          clear hSt
          refine NoPanic.normal ?_
          have HBV := Lib.hid hBV
          clear hb1 hb2 hstr hBV FN FM FW FSo FQ FX HCt HSu hmn
          go_wp2_with fail
          have hN := HN4.out
          have hW4 := HG3.out.old.size
          have hbf : Below n w V2 := HBw4.out.trans ((HG3.out.old.trans (HBV.out.mono hW4)).mono (by omega))
          have hx1 := blkKeep HBV.out HIF.out.1.1
          have hx2 := blkKeep HBV.out HIF.out.1.2
          have hx3 := blkKeep HBV.out HIF.out.2
          refine goes_end HNn.out ((heap_far _ (by omega)).trans hx1) ((heap_far _ (by omega)).trans hx2) ((heap_far _ (by omega)).trans hx3) (Boxed.set _ (HRB.out V2 HBV.out)) (hbf.setCell (p := ⟨n + 1, 0, none⟩) (by show n ≤ n + 1; omega) _) ?_ ?_ ?_ rfl rfl
          · omega
          · omega
          · omega
end Go.Proofs.Yteeojhmdefhlmaa
