/- The walk of FragmentPast. -/
import Derived.Test.YtnfogneanjgppaaGreatJ38
import Derived.Deep.CutBlock
namespace Go.Proofs.YtnfogneanjgppaaGreat
open Go.RowKit Go.Sort Go.Maps

set_option maxRecDepth 100000 in
set_option maxHeartbeats 8000000 in
theorem past_walk {w : World} {la ta ca cb : Option Addr} {lc tc cc cd : Nat} {ls : List Lt.Lab} {ts : List Tb.TV} {cl cm : List CmV}
    (hl : Lt.LabsIn w la ls) (hln : la = none → lc = 0) (hlw : Lt.allW ls) (hll : ls.length * 16 ≤ 140737488355328) (ht : Tb.TabsIn w ta ts) (hc : Tb.ColsAll w ts) (htl : ts.length * 40 ≤ 140737488351232) (hcl : ∀ t ∈ ts, t.cs.length * 32 ≤ 140737488355328)
    (h1 : CmsIn w ca cl) (h2 : CmsIn w cb cm) (o1 : ∀ y ∈ cl, y.Ok) (o2 : ∀ y ∈ cm, y.Ok) (hn : wrN cl + wrN cm ≤ 800000) :
    Calls Tryz.prog 3 #[.agg #[.slice la ls.length lc, .slice ta ts.length tc], .slice ca cl.length cc, .slice cb cm.length cd] w fun e w' => e = .returned (.bool true) ∧ Below w.heap.size w w' := by
  obtain ⟨W1, hW1⟩ : ∃ W1, w.alloc (.cells #[.slice la ls.length lc, .slice ta ts.length tc] 25) = W1 := ⟨_, rfl⟩
  have hb1 : Below w.heap.size w W1 := by rw [← hW1]; exact below_alloc _ _
  have HB1 := Lib.hid hb1
  have hk1 : W1.heap[w.heap.size]? = some (.cells #[.slice la ls.length lc, .slice ta ts.length tc] 25 (0, 0)) := by rw [← hW1]; exact new_blk _ _
  have c0 : W1.cell? ⟨w.heap.size, 0, none⟩ = some (.slice la ls.length lc) := cell_of hk1 rfl
  have c1 : W1.cell? ⟨w.heap.size, 1, none⟩ = some (.slice ta ts.length tc) := cell_of hk1 rfl
  have HM := Lib.hid (made_ (lc := lc) (tc := tc) (hl.on hb1) hln hlw hll (ht.on hb1) (hc.on hb1) htl hcl)
  have HIn := Lib.hid (And.intro (h1.on hb1) (And.intro (h2.on hb1) (ht.on hb1)))
  have HOk := Lib.hid (And.intro o1 (And.intro o2 hn))
  have HC0 := Lib.hid (And.intro c0 c1)
  unfold MadeTo at HM
  obtain ⟨NL, hNL⟩ : ∃ N, ls.length = N := ⟨_, rfl⟩
  obtain ⟨NT, hNT⟩ : ∃ N, ts.length = N := ⟨_, rfl⟩
  obtain ⟨N1, hN1⟩ : ∃ N, cl.length = N := ⟨_, rfl⟩
  obtain ⟨N2, hN2⟩ : ∃ N, cm.length = N := ⟨_, rfl⟩
  have HNs := Lib.hid (And.intro hNL (And.intro hNT (And.intro hN1 hN2)))
  rw [hNL] at c0 hW1 hll HC0
  rw [hNT] at c1 hW1 htl HC0
  rw [hNL, hNT] at HM
  rw [hNL, hNT, hN1, hN2]
  clear hl hln hlw ht hc hcl h1 h2 o1 o2 hn hb1 hk1 hNL hNT hN1 hN2
  go_enter Tryz.func3, Tryz.ntmps3
  go_wp2_with fail
  refine HM.out.mono ?_
  rintro e w2 ⟨hb2, ⟨ps, us, rfl, hfg, hus, hls, _⟩ | ⟨rfl, _⟩⟩
  rotate_left
  · clear HM HIn HOk HNs hW1
    have c1 := (hb2.cell (block_lt_of_cell HC0.out.2)).trans HC0.out.2
    go_wp2_with fail
    refine (sure_ _).mono ?_
    rintro e w3 ⟨rfl, hb3⟩
    have HE := Lib.hid (below_step (below_step HB1.out hb2) hb3)
    clear hb3
    go_wp2_with fail
    go_ret
    exact ⟨rfl, HE.out⟩
  by_cases h0 : NT = 0
  · subst h0
    clear HM HIn HOk HNs hW1
    have c1 := (hb2.cell (block_lt_of_cell HC0.out.2)).trans HC0.out.2
    go_wp2_with fail
    refine (sure_ _).mono ?_
    rintro e w3 ⟨rfl, hb3⟩
    have HE := Lib.hid (below_step (below_step HB1.out hb2) hb3)
    clear hb3
    go_wp2_with fail
    go_ret
    exact ⟨rfl, HE.out⟩
  have hne : ((NT : Int) == 0) = false := by simp; omega
  have c1 := (hb2.cell (block_lt_of_cell HC0.out.2)).trans HC0.out.2
  have HRu : Hid (Ru W1 (fun _ => False) NL ps (fun i => Lt.belowL ls i) us (fun _ _ => []) (fun _ => 0) (wrN (cl.take 0)) 0 w2) := ru_made hb2 hfg
  have HUs := Lib.hid (And.intro hus hls)
  have HZ := Lib.hid h0
  clear HM hb2 hfg hus hls hW1 h0
  go_upto_block 0 with fail
  go_cut [8] from 30 to 52 (fun _ wx => Hid (∃ k, k ≤ 20 ∧ Ru W1 (fun _ => False) NL ps (fun i => Lt.belowL ls i) us (fun _ _ => []) (fun _ => 0) (wrN (cl.take k)) k wx))
  case first =>
    go_wp2_with fail
    go_loopw [8] (fun iv wr => ∃ k : Nat, k ≤ N1 ∧ k ≤ 20 ∧ iv = .int .i64 k ∧ Hid (Ru W1 (fun _ => False) NL ps (fun i => Lt.belowL ls i) us (fun _ _ => []) (fun _ => 0) (wrN (cl.take k)) k wr)) (fun iv _ => N1 - (intOf iv).toNat)
    case atStart => exact ⟨0, Nat.zero_le _, Nat.zero_le _, rfl, HRu⟩
    case round =>
      obtain ⟨k, hk, hk20, rfl, HR⟩ := hrel
      clear HRu
      by_cases ha : k < N1
      · have ha' : (k : Int) < (N1 : Int) := by omega
        by_cases hb : k < 20
        · have hb' : (k : Int) < 20 := by omega
          have hkl : k < cl.length := by rw [HNs.out.2.2.1]; exact ha
          obtain ⟨b, o, rfl, y0, y1, hw⟩ := (HIn.out.1.on HR.out.below) k hkl
          have hok := HOk.out.1 _ (List.getElem_mem hkl)
          have hS := wrN_succ hkl
          have hbd : wrN (cl.take (k + 1)) ≤ 800000 := by have := wrN_take cl (k + 1); have := HOk.out.2.2; omega
          unfold CmV.Ok at hok
          generalize cl[k].lab = lab at *
          generalize cl[k].a = xa at *
          generalize cl[k].c = xc at *
          generalize cl[k].ws = ws at *
          obtain ⟨M, hM⟩ : ∃ M, ws.length = M := ⟨_, rfl⟩
          have HG := Lib.hid (give_at (c := xc) (hw.on (below_drew wr)) hok hM (by omega))
          have HAp : Hid (∀ (V1 : World) (ga : Option Addr) (gc : Nat) (gs : List WV), gs.length = M → (∀ x ∈ gs, x.Ok) → WrsIn V1 ga gs → Below wr.heap.size wr V1 → Calls Tryz.prog 7 #[.pointer (some ⟨ps, 0, none⟩), .int .i64 lab, .slice ga M gc] V1 fun e w' => ∃ v, e = .returned v ∧ Ru W1 (fun _ => False) NL ps (fun i => Lt.belowL ls i) us (fun _ _ => []) (fun _ => 0) (wrN (cl.take (k + 1))) (k + 1) w') := fun V1 ga gc gs h1 h2 h3 h4 => by
            rw [← h1]
            have := ru_step HR.out h4 lab (gc := gc) h3 h2 (by omega) (by omega)
            rw [hS, hM, ← h1]
            exact this
          have F5 : Hid (∀ V, Below wr.heap.size wr V → V.cell? ⟨b, o + k * 2, none⟩ = some (.int .i64 lab)) := fun V hV => (hV.cell (block_lt_of_cell y0)).trans y0
          have F10 : Hid (∀ V, Below wr.heap.size wr V → V.cell? ⟨b, o + k * 2 + 1, none⟩ = some (.slice xa M xc)) := fun V hV => by
            rw [← hM]; exact (hV.cell (block_lt_of_cell y1)).trans y1
          clear y0 y1 hw hok hS hbd hM hkl
          go_upto_region 7 with fail
          refine wp_region_noPanic ?_
          refine region_ph (A := fun _ => True) (e1 := 12) (B := (fun V => Below wr.heap.size wr V)) (e2 := 12) (C := (fun _ => True)) (by kernel_rfl) (⟨trivial, fun _ => below_drew wr, fun _ => trivial⟩) (fun hSt => ?_)
          refine take_ph 0 (.pointer (some ⟨ps, 0, none⟩)) [] rfl (by kernel_rfl) (fun _ _ _ h => h) (Or.inl ⟨by rfl, ?_⟩) hSt (fun hSn => ?_)
          · intro V _; go_simp
          clear hSt; rename Ph _ _ _ _ _ _ _ => hSt
          simp only [Act.put, List.setIfInBounds_toArray, List.set_cons_zero, List.set_cons_succ]
          refine take_ph 1 (.slice (some ⟨b, o, none⟩) N1 cc) [] rfl (by kernel_rfl) (fun _ _ _ h => h) (Or.inl ⟨by rfl, ?_⟩) hSt (fun hSn => ?_)
          · intro V _; go_simp
          clear hSt; rename Ph _ _ _ _ _ _ _ => hSt
          simp only [Act.put, List.setIfInBounds_toArray, List.set_cons_zero, List.set_cons_succ]
          refine take_ph 2 (.int .i64 (k : Int)) [] rfl (by kernel_rfl) (fun _ _ _ h => h) (Or.inl ⟨by rfl, ?_⟩) hSt (fun hSn => ?_)
          · intro V _; go_simp
          clear hSt; rename Ph _ _ _ _ _ _ _ => hSt
          simp only [Act.put, List.setIfInBounds_toArray, List.set_cons_zero, List.set_cons_succ]
          refine take_ph 3 (.pointer (some ⟨b, o + k * 2, none⟩)) [] rfl (by kernel_rfl) (fun _ _ _ h => h) (Or.inl ⟨by rfl, ?_⟩) hSt (fun hSn => ?_)
          · intro V _; go_simp
          clear hSt; rename Ph _ _ _ _ _ _ _ => hSt
          simp only [Act.put, List.setIfInBounds_toArray, List.set_cons_zero, List.set_cons_succ]
          refine take_ph 4 (.pointer (some ⟨b, o + k * 2, none⟩)) [] rfl (by kernel_rfl) (fun _ _ _ h => h) (Or.inl ⟨by rfl, ?_⟩) hSt (fun hSn => ?_)
          · intro V _; go_simp
          clear hSt; rename Ph _ _ _ _ _ _ _ => hSt
          simp only [Act.put, List.setIfInBounds_toArray, List.set_cons_zero, List.set_cons_succ]
          refine take_ph 5 (.int .i64 lab) [12] rfl (by kernel_rfl) (fun _ _ _ h => h) (Or.inl ⟨by rfl, ?_⟩) hSt (fun hSn => ?_)
          · rintro V ⟨_, hB, hC⟩; have hh := hB (by decide); have e0 := F5.out V hh; clear hB hC; go_simp
          clear hSt; rename Ph _ _ _ _ _ _ _ => hSt
          simp only [Act.put, List.setIfInBounds_toArray, List.set_cons_zero, List.set_cons_succ]
          refine take_ph 6 (.slice (some ⟨b, o, none⟩) N1 cc) [] rfl (by kernel_rfl) (fun _ _ _ h => h) (Or.inl ⟨by rfl, ?_⟩) hSt (fun hSn => ?_)
          · intro V _; go_simp
          clear hSt; rename Ph _ _ _ _ _ _ _ => hSt
          simp only [Act.put, List.setIfInBounds_toArray, List.set_cons_zero, List.set_cons_succ]
          refine take_ph 7 (.int .i64 (k : Int)) [] rfl (by kernel_rfl) (fun _ _ _ h => h) (Or.inl ⟨by rfl, ?_⟩) hSt (fun hSn => ?_)
          · intro V _; go_simp
          clear hSt; rename Ph _ _ _ _ _ _ _ => hSt
          simp only [Act.put, List.setIfInBounds_toArray, List.set_cons_zero, List.set_cons_succ]
          refine take_ph 8 (.pointer (some ⟨b, o + k * 2, none⟩)) [] rfl (by kernel_rfl) (fun _ _ _ h => h) (Or.inl ⟨by rfl, ?_⟩) hSt (fun hSn => ?_)
          · intro V _; go_simp
          clear hSt; rename Ph _ _ _ _ _ _ _ => hSt
          simp only [Act.put, List.setIfInBounds_toArray, List.set_cons_zero, List.set_cons_succ]
          refine take_ph 9 (.pointer (some ⟨b, o + k * 2 + 1, none⟩)) [] rfl (by kernel_rfl) (fun _ _ _ h => h) (Or.inl ⟨by rfl, ?_⟩) hSt (fun hSn => ?_)
          · intro V _; go_simp
          clear hSt; rename Ph _ _ _ _ _ _ _ => hSt
          simp only [Act.put, List.setIfInBounds_toArray, List.set_cons_zero, List.set_cons_succ]
          refine take_ph 10 (.slice xa M xc) [11, 12] rfl (by kernel_rfl) (fun _ _ _ h => h) (Or.inl ⟨by rfl, ?_⟩) hSt (fun hSn => ?_)
          · rintro V ⟨_, hB, hC⟩; have hh := hB (by decide); have e0 := F10.out V hh; clear hB hC; go_simp
          clear hSt; rename Ph _ _ _ _ _ _ _ => hSt
          simp only [Act.put, List.setIfInBounds_toArray, List.set_cons_zero, List.set_cons_succ]
          refine ready_call_ph 11 rfl (by kernel_rfl) (fun KK hK => ?_)
          go_simp
          go_wp2_with (first | (go_at_call 8; refine HG.out.mono ?_; rintro e V1 ⟨ga, gc, gs, rfl, hgl, hgs, hgi, hgb⟩))
          refine hK.out _ _ ?_ (fun hSn => ?_)
          · exact ⟨trivial, fun _ => below_step (below_drew wr) hgb, fun _ => trivial⟩
          clear hK KK hSt; rename Ph _ _ _ _ _ _ _ => hSt
          refine ready_call_ph 12 rfl (by kernel_rfl) (fun KK hK => ?_)
          go_simp
          go_wp2_with (first | (go_at_call 7; refine (HAp.out V1 ga gc gs hgl hgs hgi (below_step (below_drew wr) hgb)).mono ?_; rintro e V2 ⟨v, rfl, hru⟩))
          refine hK.out _ _ ?_ (fun hSn => ?_)
          · exact ⟨trivial, fun h => absurd (show true = false from h) (by decide), fun _ => trivial⟩
          clear hK KK hSt; rename Ph _ _ _ _ _ _ _ => hSt
          refine done_ph (by kernel_rfl) ?_ _
          clear hSt
          refine NoPanic.normal ?_
          have HNx := Lib.hid hru
          clear HG HAp F5 F10 hru hgl hgs hgi hgb HR
          go_wp2_with fail
          go_roundw
          case rel => exact ⟨k + 1, by omega, by omega, by go_num, HNx⟩
          case measure => simp [intOf]; omega
        · have hb' : ¬ (k : Int) < 20 := by omega
          go_wp2_with fail
          go_meet
          case rel => exact ⟨k, hk20, HR.out⟩
      · have ha' : ¬ (k : Int) < (N1 : Int) := by omega
        go_wp2_with fail
        go_meet
        case rel => exact ⟨k, hk20, HR.out⟩
  case rest =>
    obtain ⟨k, hk20, hru⟩ := hcut.out
    have hBx := hru.below
    obtain ⟨S, K, x, hf, hS, hfr, hKt, hcm, _, _⟩ := hru.ex
    have HNw := Lib.hid (fnow_ hf)
    have HX := Lib.hid (And.intro hf (And.intro hS (And.intro hKt (And.intro hcm hBx))))
    have hNL : 0 < NL := by rw [← HNs.out.1]; exact HUs.out.2.pos
    have hNL16 : NL ≤ 16 := by rw [← HNs.out.1]; exact HUs.out.2.le
    unfold NowTo at HNw
    clear hcut hru hf hS hfr hKt hcm hBx HRu c1
    go_wp2_with fail
    refine HNw.out.mono ?_
    rintro e w3 ⟨sa, sc, rfl, hz, hb3⟩
    have HS := Lib.hid (And.intro hz hb3)
    have hb13 := below_step HX.out.2.2.2.2 hb3
    have c0 := (hb13.cell (block_lt_of_cell HC0.out.1)).trans HC0.out.1
    have c1 := (hb13.cell (block_lt_of_cell HC0.out.2)).trans HC0.out.2
    have hT0 : 0 < ts.length := by rw [HNs.out.2.1]; have := HZ.out; omega
    obtain ⟨tb, to_, rfl, k00, k9⟩ := HIn.out.2.2 0 hT0
    clear k9
    simp only [Nat.zero_mul, Nat.add_zero] at k00
    have k0 := (hb13.cell (block_lt_of_cell k00)).trans k00
    have hj := tab_first HUs.out.1 hT0
    have HTn := Lib.hid (And.intro hj k00)
    generalize ts[0].nm = nm at *
    have hK8 : K ≤ 800000 := Nat.le_trans HX.out.2.2.1 (Nat.le_trans (wrN_take cl k) (by have := HOk.out.2.2; omega))
    have HV := Lib.hid (fview_ (HX.out.1.on hb3) (fun a => Lt.upTo_nodup _ _) (fun a => Nat.le_trans (Lt.upTo_len _ _) HUs.out.2.le) ((NL : Int) - 1) (sc := sc) hz.1 (by rw [nowL_len]; omega) nm rg0 (by omega))
    rw [has_top hNL, now_snap, Bool.and_self, nowL_len] at HV
    have hw1 := wraps_i64 ((NL : Int) - 1) (by omega) (by omega)
    have hti : (0 : Int) < (NT : Int) := by have := HZ.out; omega
    clear hz hb3 hb13 hT0 hj HNw k00
    go_wp2_with fail
    refine HV.out.mono ?_
    intro e w4 hv
    obtain ⟨a4, c4, Zs, rfl, hr, hg, hs, hb4⟩ := view_ok hv HTn.out.1
    have HR2 : Hid (Ru w4 S NL ps (fun i => Lt.belowL ls i) us (fun a b => rowsM rg0 (snapF (nowL NL x) a) (x.fr a b)) (snapF (nowL NL x)) (wrN (cl.take k) + wrN (cm.take 0)) (k + 0) w4) :=
      ⟨S, K, x, HX.out.1.on (below_step HS.out.2 hb4), fun q hq => .inl hq, Frame.refl S w4, HX.out.2.2.1, HX.out.2.2.2.1, now_le NL x, fun _ _ => rfl⟩
    have HFar : Hid (Below W1.heap.size W1 w4 ∧ (∀ q, S q → W1.heap.size ≤ q) ∧ ∀ q, S q → q < w3.heap.size) := ⟨below_step HX.out.2.2.2.2 (below_step HS.out.2 hb4), fun q hq => (HX.out.2.1 q hq).elim False.elim id, fun q hq => Nat.lt_of_lt_of_le (HX.out.1.bd q hq) HS.out.2.size⟩
    have HVw := Lib.hid (And.intro hr (And.intro hg (And.intro hs (And.intro (HS.out.1.1.on hb4) HS.out.1.2))))
    obtain ⟨LZ, hLZ⟩ : ∃ L, (Zs.map rvOf).length = L := ⟨_, rfl⟩
    have HLZ := Lib.hid hLZ
    rw [hLZ]
    clear hv hr hg hs hb4 hLZ HV c0 c1 k0 hK8
    go_upto_block 2 with fail
    go_cut [13] from 72 to 94 (fun _ wx => Hid (∃ q, q ≤ 20 ∧ Ru w4 S NL ps (fun i => Lt.belowL ls i) us (fun a b => rowsM rg0 (snapF (nowL NL x) a) (x.fr a b)) (snapF (nowL NL x)) (wrN (cl.take k) + wrN (cm.take q)) (k + q) wx))
    case first =>
      go_wp2_with fail
      go_loopw [13] (fun iv wr => ∃ q : Nat, q ≤ N2 ∧ q ≤ 20 ∧ iv = .int .i64 q ∧ Hid (Ru w4 S NL ps (fun i => Lt.belowL ls i) us (fun a b => rowsM rg0 (snapF (nowL NL x) a) (x.fr a b)) (snapF (nowL NL x)) (wrN (cl.take k) + wrN (cm.take q)) (k + q) wr)) (fun iv _ => N2 - (intOf iv).toNat)
      case atStart => exact ⟨0, Nat.zero_le _, Nat.zero_le _, rfl, HR2⟩
      case round =>
        obtain ⟨q, hq, hq20, rfl, HR⟩ := hrel
        clear HR2
        by_cases ha : q < N2
        · have ha' : (q : Int) < (N2 : Int) := by omega
          by_cases hb : q < 20
          · have hb' : (q : Int) < 20 := by omega
            have hkl : q < cm.length := by rw [HNs.out.2.2.2]; exact ha
            obtain ⟨b, o, rfl, y0, y1, hw⟩ := (HIn.out.2.1.on (HR.out.far HFar.out.1 HFar.out.2.1)) q hkl
            have hok := HOk.out.2.1 _ (List.getElem_mem hkl)
            have hS := wrN_succ hkl
            have hbd : wrN (cl.take k) + wrN (cm.take (q + 1)) ≤ 800000 := by have := wrN_take cl k; have := wrN_take cm (q + 1); have := HOk.out.2.2; omega
            unfold CmV.Ok at hok
            generalize cm[q].lab = lab at *
            generalize cm[q].a = xa at *
            generalize cm[q].c = xc at *
            generalize cm[q].ws = ws at *
            obtain ⟨M, hM⟩ : ∃ M, ws.length = M := ⟨_, rfl⟩
            have HG := Lib.hid (give_at (c := xc) (hw.on (below_drew wr)) hok hM (by omega))
            have HAp : Hid (∀ (V1 : World) (ga : Option Addr) (gc : Nat) (gs : List WV), gs.length = M → (∀ x ∈ gs, x.Ok) → WrsIn V1 ga gs → Below wr.heap.size wr V1 → Calls Tryz.prog 7 #[.pointer (some ⟨ps, 0, none⟩), .int .i64 lab, .slice ga M gc] V1 fun e w' => ∃ v, e = .returned v ∧ Ru w4 S NL ps (fun i => Lt.belowL ls i) us (fun a b => rowsM rg0 (snapF (nowL NL x) a) (x.fr a b)) (snapF (nowL NL x)) (wrN (cl.take k) + wrN (cm.take (q + 1))) (k + (q + 1)) w') := fun V1 ga gc gs h1 h2 h3 h4 => by
              rw [← h1]
              have := ru_step HR.out h4 lab (gc := gc) h3 h2 (by omega) (by omega)
              rw [hS, hM, ← h1, ← Nat.add_assoc, ← Nat.add_assoc]
              exact this
            have F5 : Hid (∀ V, Below wr.heap.size wr V → V.cell? ⟨b, o + q * 2, none⟩ = some (.int .i64 lab)) := fun V hV => (hV.cell (block_lt_of_cell y0)).trans y0
            have F10 : Hid (∀ V, Below wr.heap.size wr V → V.cell? ⟨b, o + q * 2 + 1, none⟩ = some (.slice xa M xc)) := fun V hV => by
              rw [← hM]; exact (hV.cell (block_lt_of_cell y1)).trans y1
            clear y0 y1 hw hok hS hbd hM hkl
            go_upto_region 14 with fail
            refine wp_region_noPanic ?_
            refine region_ph (A := fun _ => True) (e1 := 12) (B := (fun V => Below wr.heap.size wr V)) (e2 := 12) (C := (fun _ => True)) (by kernel_rfl) (⟨trivial, fun _ => below_drew wr, fun _ => trivial⟩) (fun hSt => ?_)
            refine take_ph 0 (.pointer (some ⟨ps, 0, none⟩)) [] rfl (by kernel_rfl) (fun _ _ _ h => h) (Or.inl ⟨by rfl, ?_⟩) hSt (fun hSn => ?_)
            · intro V _; go_simp
            clear hSt; rename Ph _ _ _ _ _ _ _ => hSt
            simp only [Act.put, List.setIfInBounds_toArray, List.set_cons_zero, List.set_cons_succ]
            refine take_ph 1 (.slice (some ⟨b, o, none⟩) N2 cd) [] rfl (by kernel_rfl) (fun _ _ _ h => h) (Or.inl ⟨by rfl, ?_⟩) hSt (fun hSn => ?_)
            · intro V _; go_simp
            clear hSt; rename Ph _ _ _ _ _ _ _ => hSt
            simp only [Act.put, List.setIfInBounds_toArray, List.set_cons_zero, List.set_cons_succ]
            refine take_ph 2 (.int .i64 (q : Int)) [] rfl (by kernel_rfl) (fun _ _ _ h => h) (Or.inl ⟨by rfl, ?_⟩) hSt (fun hSn => ?_)
            · intro V _; go_simp
            clear hSt; rename Ph _ _ _ _ _ _ _ => hSt
            simp only [Act.put, List.setIfInBounds_toArray, List.set_cons_zero, List.set_cons_succ]
            refine take_ph 3 (.pointer (some ⟨b, o + q * 2, none⟩)) [] rfl (by kernel_rfl) (fun _ _ _ h => h) (Or.inl ⟨by rfl, ?_⟩) hSt (fun hSn => ?_)
            · intro V _; go_simp
            clear hSt; rename Ph _ _ _ _ _ _ _ => hSt
            simp only [Act.put, List.setIfInBounds_toArray, List.set_cons_zero, List.set_cons_succ]
            refine take_ph 4 (.pointer (some ⟨b, o + q * 2, none⟩)) [] rfl (by kernel_rfl) (fun _ _ _ h => h) (Or.inl ⟨by rfl, ?_⟩) hSt (fun hSn => ?_)
            · intro V _; go_simp
            clear hSt; rename Ph _ _ _ _ _ _ _ => hSt
            simp only [Act.put, List.setIfInBounds_toArray, List.set_cons_zero, List.set_cons_succ]
            refine take_ph 5 (.int .i64 lab) [12] rfl (by kernel_rfl) (fun _ _ _ h => h) (Or.inl ⟨by rfl, ?_⟩) hSt (fun hSn => ?_)
            · rintro V ⟨_, hB, hC⟩; have hh := hB (by decide); have e0 := F5.out V hh; clear hB hC; go_simp
            clear hSt; rename Ph _ _ _ _ _ _ _ => hSt
            simp only [Act.put, List.setIfInBounds_toArray, List.set_cons_zero, List.set_cons_succ]
            refine take_ph 6 (.slice (some ⟨b, o, none⟩) N2 cd) [] rfl (by kernel_rfl) (fun _ _ _ h => h) (Or.inl ⟨by rfl, ?_⟩) hSt (fun hSn => ?_)
            · intro V _; go_simp
            clear hSt; rename Ph _ _ _ _ _ _ _ => hSt
            simp only [Act.put, List.setIfInBounds_toArray, List.set_cons_zero, List.set_cons_succ]
            refine take_ph 7 (.int .i64 (q : Int)) [] rfl (by kernel_rfl) (fun _ _ _ h => h) (Or.inl ⟨by rfl, ?_⟩) hSt (fun hSn => ?_)
            · intro V _; go_simp
            clear hSt; rename Ph _ _ _ _ _ _ _ => hSt
            simp only [Act.put, List.setIfInBounds_toArray, List.set_cons_zero, List.set_cons_succ]
            refine take_ph 8 (.pointer (some ⟨b, o + q * 2, none⟩)) [] rfl (by kernel_rfl) (fun _ _ _ h => h) (Or.inl ⟨by rfl, ?_⟩) hSt (fun hSn => ?_)
            · intro V _; go_simp
            clear hSt; rename Ph _ _ _ _ _ _ _ => hSt
            simp only [Act.put, List.setIfInBounds_toArray, List.set_cons_zero, List.set_cons_succ]
            refine take_ph 9 (.pointer (some ⟨b, o + q * 2 + 1, none⟩)) [] rfl (by kernel_rfl) (fun _ _ _ h => h) (Or.inl ⟨by rfl, ?_⟩) hSt (fun hSn => ?_)
            · intro V _; go_simp
            clear hSt; rename Ph _ _ _ _ _ _ _ => hSt
            simp only [Act.put, List.setIfInBounds_toArray, List.set_cons_zero, List.set_cons_succ]
            refine take_ph 10 (.slice xa M xc) [11, 12] rfl (by kernel_rfl) (fun _ _ _ h => h) (Or.inl ⟨by rfl, ?_⟩) hSt (fun hSn => ?_)
            · rintro V ⟨_, hB, hC⟩; have hh := hB (by decide); have e0 := F10.out V hh; clear hB hC; go_simp
            clear hSt; rename Ph _ _ _ _ _ _ _ => hSt
            simp only [Act.put, List.setIfInBounds_toArray, List.set_cons_zero, List.set_cons_succ]
            refine ready_call_ph 11 rfl (by kernel_rfl) (fun KK hK => ?_)
            go_simp
            go_wp2_with (first | (go_at_call 8; refine HG.out.mono ?_; rintro e V1 ⟨ga, gc, gs, rfl, hgl, hgs, hgi, hgb⟩))
            refine hK.out _ _ ?_ (fun hSn => ?_)
            · exact ⟨trivial, fun _ => below_step (below_drew wr) hgb, fun _ => trivial⟩
            clear hK KK hSt; rename Ph _ _ _ _ _ _ _ => hSt
            refine ready_call_ph 12 rfl (by kernel_rfl) (fun KK hK => ?_)
            go_simp
            go_wp2_with (first | (go_at_call 7; refine (HAp.out V1 ga gc gs hgl hgs hgi (below_step (below_drew wr) hgb)).mono ?_; rintro e V2 ⟨v, rfl, hru⟩))
            refine hK.out _ _ ?_ (fun hSn => ?_)
            · exact ⟨trivial, fun h => absurd (show true = false from h) (by decide), fun _ => trivial⟩
            clear hK KK hSt; rename Ph _ _ _ _ _ _ _ => hSt
            refine done_ph (by kernel_rfl) ?_ _
            clear hSt
            refine NoPanic.normal ?_
            have HNx := Lib.hid hru
            clear HG HAp F5 F10 hru hgl hgs hgi hgb HR
            go_wp2_with fail
            go_roundw
            case rel => exact ⟨q + 1, by omega, by omega, by go_num, HNx⟩
            case measure => simp [intOf]; omega
          · have hb' : ¬ (q : Int) < 20 := by omega
            go_wp2_with fail
            go_meet
            case rel => exact ⟨q, hq20, HR.out⟩
        · have ha' : ¬ (q : Int) < (N2 : Int) := by omega
          go_wp2_with fail
          go_meet
          case rel => exact ⟨q, hq20, HR.out⟩
    case rest =>
      obtain ⟨q, hq20, hru⟩ := hcut.out
      have hB5 := hru.far HFar.out.1 HFar.out.2.1
      obtain ⟨S2, K2, y, hf2, _, hfr2, hKt2, _, _, hR2⟩ := hru.ex
      have c0 := (hB5.cell (block_lt_of_cell HC0.out.1)).trans HC0.out.1
      have c1 := (hB5.cell (block_lt_of_cell HC0.out.2)).trans HC0.out.2
      have k0 := (hB5.cell (block_lt_of_cell HTn.out.2)).trans HTn.out.2
      have hz2 := ZsIn.keep HVw.out.2.2.2.1 hfr2 HX.out.1.bd HVw.out.2.2.2.2
      have hK9 : K2 ≤ 800000 := by have := wrN_take cl k; have := wrN_take cm q; have := HOk.out.2.2; omega
      have HV2 := Lib.hid (fview_ hf2 (fun a => Lt.upTo_nodup _ _) (fun a => Nat.le_trans (Lt.upTo_len _ _) HUs.out.2.le) ((NL : Int) - 1) (sc := sc) hz2 (by rw [nowL_len]; omega) nm rg0 (by omega))
      rw [has_top hNL, now_snap, Bool.and_self, nowL_len] at HV2
      have HR5 := Lib.hid (HVw.out.1.keep hfr2 HFar.out.2.2)
      have HQ5 := Lib.hid (And.intro hR2 (And.intro hf2.ok (And.intro hB5 (show K2 ≤ 900000 by omega))))
      clear hcut hru hB5 hf2 hfr2 hKt2 hR2 hz2 hK9 HR2
      go_wp2_with fail
      refine HV2.out.mono ?_
      intro e w6 hv
      obtain ⟨a6, c6, Zt, rfl, hr6, hg6, hs6, hb6⟩ := view_ok hv HTn.out.1
      have heq : Zs.map rvOf = Zt.map rvOf := views_same HVw.out.2.2.1 hs6 HVw.out.2.1 hg6 HQ5.out.1
      have hlt := see_len HQ5.out.2.1 hs6 (Nat.le_trans (Lt.upTo_len _ _) HUs.out.2.le) HQ5.out.2.2.2
      have hr5 := HR5.out.keep (Frame.below (Ft := fun _ => False) hb6) (fun _ h => h.elim)
      have HRw := Lib.hid (lrows_ (c := c4) (c' := c6) hr5.rws hr6.rws heq (rv_len HVw.out.2.1) (by rw [heq]; exact hlt))
      have hb16 := below_step HQ5.out.2.2.1 hb6
      have HB16 := Lib.hid hb16
      rw [← heq]
      rw [← heq, HLZ.out] at HRw
      rw [HLZ.out]
      clear hv hr6 hg6 hs6 hb6 heq hlt hr5 hb16 HV2 c0 c1 k0
      go_wp2_with fail
      refine HRw.out.mono ?_
      rintro e w7 ⟨rfl, hb7⟩
      have c0 := ((below_step HB16.out hb7).cell (block_lt_of_cell HC0.out.1)).trans HC0.out.1
      have HB7 := Lib.hid (below_step HB1.out (below_step HB16.out hb7))
      clear hb7 HRw
      go_wp2_with fail
      refine (sure_ _).mono ?_
      rintro e w8 ⟨rfl, hb8⟩
      have HE := Lib.hid (below_step HB7.out hb8)
      clear hb8
      go_wp2_with fail
      go_ret
      exact ⟨rfl, HE.out⟩
end Go.Proofs.YtnfogneanjgppaaGreat
