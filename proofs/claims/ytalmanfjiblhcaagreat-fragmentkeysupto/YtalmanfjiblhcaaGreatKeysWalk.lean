/- The walk of FragmentKeys. -/
import Derived.Test.YtalmanfjiblhcaaGreatJ43
import Derived.Deep.CutBlock
namespace Go.Proofs.YtalmanfjiblhcaaGreat
open Go.RowKit Go.Sort Go.Maps
theorem view_ok2 {w w' : World} {us : List Tb.TV} {x : FgM} {r : Rg} {B : List Nat} {zs : List Int} {name : ByteArray} {e : Ending} (h : ViewTo w us x r B zs name true e w') {j : Nat} (hj : tabN name us = some j) :
 ∃ (a : Option Addr) (c : Nat) (Zs : List Zr), e = .returned (.tuple #[.slice a (Zs.map rvOf).length c, .nilIface]) ∧ RwsAt w' w.heap.size a Zs ∧ (∀ z ∈ Zs, (Rw.kErr (colsAt us j) z.2 = 0 ∧ ∀ y ∈ z.2, Rw.inI y.n) ∧ Rw.wtV z.2 ≤ 1048576 ∧ z.1.k = ⟨(Rw.kTxt (colsAt us j) z.2).toArray⟩) ∧ SeenIs (fun a => x.fr a j) (snapF zs) r B (Zs.map toS) ∧ Below w.heap.size w w' := by
 rcases h with ⟨h, _⟩ | ⟨_, h, _⟩ | ⟨_, j', v, Zs, h1, rfl, h3, h4, h5, h6, h7⟩
 · cases h
 · rw [hj] at h; cases h
 · rw [hj] at h1
   obtain rfl := Option.some.inj h1
   obtain ⟨a, c, rfl, hr⟩ := rws_of h3 h4
   exact ⟨a, c, Zs, rfl, hr, fun z hz => ⟨⟨(h5 z hz).1, (h5 z hz).2.2.1⟩, (h5 z hz).2.2.2, (h5 z hz).2.1⟩, h6, h7⟩
theorem tab_cols {us ts : List Tb.TV} (h : us.map Tb.TV.tab = ts.map Tb.TV.tab) (h0 : 0 < ts.length) : colsAt us 0 = ts[0].cs := by
 have hl := congrArg List.length h
 rw [List.length_map, List.length_map] at hl
 cases us with
 | nil => exact absurd hl (by simp only [List.length_nil]; omega)
 | cons u us =>
   cases ts with
   | nil => exact absurd h0 (by simp)
   | cons t ts =>
     simp only [List.map_cons, List.cons.injEq] at h
     have e : u.cs = t.cs := congrArg Tb.Tab.cs h.1
     rw [colsAt_lt (by simp)]
     exact e
theorem has_at {n i : Nat} (h : i < n) : hasB n (i : Int) = true := by
 unfold hasB
 rw [decide_eq_true (by omega), decide_eq_true (by omega)]; rfl
set_option maxRecDepth 100000 in
set_option maxHeartbeats 8000000 in
theorem keys_walk {w : World} {la ta ca : Option Addr} {lc tc cc : Nat} {ls : List Lt.Lab} {ts : List Tb.TV} {cl : List CmV} (at_ : Int)
 (hl : Lt.LabsIn w la ls) (hln : la = none → lc = 0) (hlw : Lt.allW ls) (hll : ls.length * 16 ≤ 140737488355328) (ht : Tb.TabsIn w ta ts) (hc : Tb.ColsAll w ts) (htl : ts.length * 40 ≤ 140737488351232) (hcl : ∀ t ∈ ts, t.cs.length * 32 ≤ 140737488355328)
 (h1 : CmsIn w ca cl) (o1 : ∀ y ∈ cl, y.Ok) (hn : wrN cl ≤ 800000) (hct : ∀ t ∈ ts, t.cs.length ≤ 1048576) :
 Calls Tryz.prog 4 #[.agg #[.slice la ls.length lc, .slice ta ts.length tc], .slice ca cl.length cc, .int .i64 at_] w fun e w' => e = .returned (.bool true) ∧ Below w.heap.size w w' := by
 obtain ⟨W1, hW1⟩ : ∃ W1, w.alloc (.cells #[.slice la ls.length lc, .slice ta ts.length tc] 25) = W1 := ⟨_, rfl⟩
 have hb1 : Below w.heap.size w W1 := by rw [← hW1]; exact below_alloc _ _
 have HB1 := Lib.hid hb1
 have hk1 : W1.heap[w.heap.size]? = some (.cells #[.slice la ls.length lc, .slice ta ts.length tc] 25 (0, 0)) := by rw [← hW1]; exact new_blk _ _
 have c0 : W1.cell? ⟨w.heap.size, 0, none⟩ = some (.slice la ls.length lc) := cell_of hk1 rfl
 have c1 : W1.cell? ⟨w.heap.size, 1, none⟩ = some (.slice ta ts.length tc) := cell_of hk1 rfl
 have HM := Lib.hid (made_ (lc := lc) (tc := tc) (hl.on hb1) hln hlw hll (ht.on hb1) (hc.on hb1) htl hcl)
 have HIn := Lib.hid (And.intro (h1.on hb1) (And.intro (ht.on hb1) (And.intro (hc.on hb1) (And.intro (hl.on hb1) (And.intro hlw hct)))))
 have HOk := Lib.hid (And.intro o1 hn)
 have HC0 := Lib.hid (And.intro c0 c1)
 unfold MadeTo at HM
 obtain ⟨NL, hNL⟩ : ∃ N, ls.length = N := ⟨_, rfl⟩
 obtain ⟨NT, hNT⟩ : ∃ N, ts.length = N := ⟨_, rfl⟩
 obtain ⟨N1, hN1⟩ : ∃ N, cl.length = N := ⟨_, rfl⟩
 have HNs := Lib.hid (And.intro hNL (And.intro hNT hN1))
 rw [hNL] at c0 hW1 hll HC0
 rw [hNT] at c1 hW1 htl HC0
 rw [hNL, hNT] at HM
 rw [hNL, hNT, hN1]
 clear hl hln hlw ht hc hcl h1 o1 hn hct hb1 hk1 hNL hNT hN1
 go_enter Tryz.func4, Tryz.ntmps4
 go_wp2_with fail
 refine HM.out.mono ?_
 rintro e w2 ⟨hb2, ⟨ps, us, rfl, hfg, hus, hls, _⟩ | ⟨rfl, _⟩⟩
 rotate_left
 · clear HM HIn HOk HNs hW1
   have c1 := (hb2.cell (block_lt_of_cell HC0.out.2)).trans HC0.out.2
   go_wp2_with fail
   refine (sure_ _).mono ?_
   rintro e w3 ⟨rfl, hb3⟩
   have HE := Lib.hid (below_step (below_step HB1.out hb2) hb3)
   clear hb3
   go_wp2_with fail
   go_ret
   exact ⟨rfl, HE.out⟩
 by_cases h0 : NT = 0
 · subst h0
   clear HM HIn HOk HNs hW1
   have c1 := (hb2.cell (block_lt_of_cell HC0.out.2)).trans HC0.out.2
   go_wp2_with fail
   refine (sure_ _).mono ?_
   rintro e w3 ⟨rfl, hb3⟩
   have HE := Lib.hid (below_step (below_step HB1.out hb2) hb3)
   clear hb3
   go_wp2_with fail
   go_ret
   exact ⟨rfl, HE.out⟩
 have hne : ((NT : Int) == 0) = false := by simp; omega
 have c1 := (hb2.cell (block_lt_of_cell HC0.out.2)).trans HC0.out.2
 have HRu : Hid (Ru W1 (fun _ => False) NL ps (fun i => Lt.belowL ls i) us (fun _ _ => []) (fun _ => 0) (wrN (cl.take 0)) 0 w2) := ru_made hb2 hfg
 have HUs := Lib.hid (And.intro hus hls)
 have HZ := Lib.hid h0
 clear HM hb2 hfg hus hls hW1 h0
 go_upto_block 0 with fail
 go_cut [8] from 34 to 56 (fun _ wx => Hid (∃ k, k ≤ 30 ∧ Ru W1 (fun _ => False) NL ps (fun i => Lt.belowL ls i) us (fun _ _ => []) (fun _ => 0) (wrN (cl.take k)) k wx))
 case first =>
  go_wp2_with fail
  go_loopw [8] (fun iv wr => ∃ k : Nat, k ≤ N1 ∧ k ≤ 30 ∧ iv = .int .i64 k ∧ Hid (Ru W1 (fun _ => False) NL ps (fun i => Lt.belowL ls i) us (fun _ _ => []) (fun _ => 0) (wrN (cl.take k)) k wr)) (fun iv _ => N1 - (intOf iv).toNat)
  case atStart => exact ⟨0, Nat.zero_le _, Nat.zero_le _, rfl, HRu⟩
  case round =>
   obtain ⟨k, hk, hk30, rfl, HR⟩ := hrel
   clear HRu
   by_cases ha : k < N1
   · have ha' : (k : Int) < (N1 : Int) := by omega
     by_cases hb : k < 30
     · have hb' : (k : Int) < 30 := by omega
       have hkl : k < cl.length := by rw [HNs.out.2.2]; exact ha
       obtain ⟨b, o, rfl, y0, y1, hw⟩ := (HIn.out.1.on HR.out.below) k hkl
       have hok := HOk.out.1 _ (List.getElem_mem hkl)
       have hS := wrN_succ hkl
       have hbd : wrN (cl.take (k + 1)) ≤ 800000 := by have := wrN_take cl (k + 1); have := HOk.out.2; omega
       unfold CmV.Ok at hok
       generalize cl[k].lab = lab at *
       generalize cl[k].a = xa at *
       generalize cl[k].c = xc at *
       generalize cl[k].ws = ws at *
       obtain ⟨M, hM⟩ : ∃ M, ws.length = M := ⟨_, rfl⟩
       have HG := Lib.hid (give_at (c := xc) (hw.on (below_drew wr)) hok hM (by omega))
       have HAp : Hid (∀ (V1 : World) (ga : Option Addr) (gc : Nat) (gs : List WV), gs.length = M → (∀ x ∈ gs, x.Ok) → WrsIn V1 ga gs → Below wr.heap.size wr V1 → Calls Tryz.prog 7 #[.pointer (some ⟨ps, 0, none⟩), .int .i64 lab, .slice ga M gc] V1 fun e w' => ∃ v, e = .returned v ∧ Ru W1 (fun _ => False) NL ps (fun i => Lt.belowL ls i) us (fun _ _ => []) (fun _ => 0) (wrN (cl.take (k + 1))) (k + 1) w') := fun V1 ga gc gs h1 h2 h3 h4 => by
        rw [← h1]
        have := ru_step HR.out h4 lab (gc := gc) h3 h2 (by omega) (by omega)
        rw [hS, hM, ← h1]
        exact this
       have F5 : Hid (∀ V, Below wr.heap.size wr V → V.cell? ⟨b, o + k * 2, none⟩ = some (.int .i64 lab)) := fun V hV => (hV.cell (block_lt_of_cell y0)).trans y0
       have F10 : Hid (∀ V, Below wr.heap.size wr V → V.cell? ⟨b, o + k * 2 + 1, none⟩ = some (.slice xa M xc)) := fun V hV => by
        rw [← hM]; exact (hV.cell (block_lt_of_cell y1)).trans y1
       clear y0 y1 hw hok hS hbd hM hkl
       go_upto_region 7 with fail
       refine wp_region_noPanic ?_
       refine region_ph (A := fun _ => True) (e1 := 12) (B := (fun V => Below wr.heap.size wr V)) (e2 := 12) (C := (fun _ => True)) (by kernel_rfl) (⟨trivial, fun _ => below_drew wr, fun _ => trivial⟩) (fun hSt => ?_)
       refine take_ph 0 (.pointer (some ⟨ps, 0, none⟩)) [] rfl (by kernel_rfl) (fun _ _ _ h => h) (Or.inl ⟨by rfl, ?_⟩) hSt (fun hSn => ?_)
       · intro V _; go_simp
       clear hSt; rename Ph _ _ _ _ _ _ _ => hSt; simp only [Act.put, prw]
       refine take_ph 1 (.slice (some ⟨b, o, none⟩) N1 cc) [] rfl (by kernel_rfl) (fun _ _ _ h => h) (Or.inl ⟨by rfl, ?_⟩) hSt (fun hSn => ?_)
       · intro V _; go_simp
       clear hSt; rename Ph _ _ _ _ _ _ _ => hSt; simp only [Act.put, prw]
       refine take_ph 2 (.int .i64 (k : Int)) [] rfl (by kernel_rfl) (fun _ _ _ h => h) (Or.inl ⟨by rfl, ?_⟩) hSt (fun hSn => ?_)
       · intro V _; go_simp
       clear hSt; rename Ph _ _ _ _ _ _ _ => hSt; simp only [Act.put, prw]
       refine take_ph 3 (.pointer (some ⟨b, o + k * 2, none⟩)) [] rfl (by kernel_rfl) (fun _ _ _ h => h) (Or.inl ⟨by rfl, ?_⟩) hSt (fun hSn => ?_)
       · intro V _; go_simp
       clear hSt; rename Ph _ _ _ _ _ _ _ => hSt; simp only [Act.put, prw]
       refine take_ph 4 (.pointer (some ⟨b, o + k * 2, none⟩)) [] rfl (by kernel_rfl) (fun _ _ _ h => h) (Or.inl ⟨by rfl, ?_⟩) hSt (fun hSn => ?_)
       · intro V _; go_simp
       clear hSt; rename Ph _ _ _ _ _ _ _ => hSt; simp only [Act.put, prw]
       refine take_ph 5 (.int .i64 lab) [12] rfl (by kernel_rfl) (fun _ _ _ h => h) (Or.inl ⟨by rfl, ?_⟩) hSt (fun hSn => ?_)
       · rintro V ⟨_, hB, hC⟩; have hh := hB (by decide); have e0 := F5.out V hh; clear hB hC; go_simp
       clear hSt; rename Ph _ _ _ _ _ _ _ => hSt; simp only [Act.put, prw]
       refine take_ph 6 (.slice (some ⟨b, o, none⟩) N1 cc) [] rfl (by kernel_rfl) (fun _ _ _ h => h) (Or.inl ⟨by rfl, ?_⟩) hSt (fun hSn => ?_)
       · intro V _; go_simp
       clear hSt; rename Ph _ _ _ _ _ _ _ => hSt; simp only [Act.put, prw]
       refine take_ph 7 (.int .i64 (k : Int)) [] rfl (by kernel_rfl) (fun _ _ _ h => h) (Or.inl ⟨by rfl, ?_⟩) hSt (fun hSn => ?_)
       · intro V _; go_simp
       clear hSt; rename Ph _ _ _ _ _ _ _ => hSt; simp only [Act.put, prw]
       refine take_ph 8 (.pointer (some ⟨b, o + k * 2, none⟩)) [] rfl (by kernel_rfl) (fun _ _ _ h => h) (Or.inl ⟨by rfl, ?_⟩) hSt (fun hSn => ?_)
       · intro V _; go_simp
       clear hSt; rename Ph _ _ _ _ _ _ _ => hSt; simp only [Act.put, prw]
       refine take_ph 9 (.pointer (some ⟨b, o + k * 2 + 1, none⟩)) [] rfl (by kernel_rfl) (fun _ _ _ h => h) (Or.inl ⟨by rfl, ?_⟩) hSt (fun hSn => ?_)
       · intro V _; go_simp
       clear hSt; rename Ph _ _ _ _ _ _ _ => hSt; simp only [Act.put, prw]
       refine take_ph 10 (.slice xa M xc) [11, 12] rfl (by kernel_rfl) (fun _ _ _ h => h) (Or.inl ⟨by rfl, ?_⟩) hSt (fun hSn => ?_)
       · rintro V ⟨_, hB, hC⟩; have hh := hB (by decide); have e0 := F10.out V hh; clear hB hC; go_simp
       clear hSt; rename Ph _ _ _ _ _ _ _ => hSt; simp only [Act.put, prw]
       refine ready_call_ph 11 rfl (by kernel_rfl) (fun KK hK => ?_)
       go_simp
       go_wp2_with (first | (go_at_call 8; refine HG.out.mono ?_; rintro e V1 ⟨ga, gc, gs, rfl, hgl, hgs, hgi, hgb⟩))
       refine hK.out _ _ ?_ (fun hSn => ?_)
       · exact ⟨trivial, fun _ => below_step (below_drew wr) hgb, fun _ => trivial⟩
       clear hK KK hSt; rename Ph _ _ _ _ _ _ _ => hSt
       refine ready_call_ph 12 rfl (by kernel_rfl) (fun KK hK => ?_)
       go_simp
       go_wp2_with (first | (go_at_call 7; refine (HAp.out V1 ga gc gs hgl hgs hgi (below_step (below_drew wr) hgb)).mono ?_; rintro e V2 ⟨v, rfl, hru⟩))
       refine hK.out _ _ ?_ (fun hSn => ?_)
       · exact ⟨trivial, fun h => absurd (show true = false from h) (by decide), fun _ => trivial⟩
       clear hK KK hSt; rename Ph _ _ _ _ _ _ _ => hSt
       refine done_ph (by kernel_rfl) ?_ _
       clear hSt
       refine NoPanic.normal ?_
       have HNx := Lib.hid hru
       clear HG HAp F5 F10 hru hgl hgs hgi hgb HR
       go_wp2_with fail
       go_roundw
       case rel => exact ⟨k + 1, by omega, by omega, by go_num, HNx⟩
       case measure => simp [intOf]; omega
     · have hb' : ¬ (k : Int) < 30 := by omega
       go_wp2_with fail
       go_meet
       case rel => exact ⟨k, hk30, HR.out⟩
   · have ha' : ¬ (k : Int) < (N1 : Int) := by omega
     go_wp2_with fail
     go_meet
     case rel => exact ⟨k, hk30, HR.out⟩
 case rest =>
  obtain ⟨k, hk30, hru⟩ := hcut.out
  have hBx := hru.below
  obtain ⟨S, K, x, hf, hS, hfr, hKt, hcm, _, _⟩ := hru.ex
  have hNL : 0 < NL := by rw [← HNs.out.1]; exact HUs.out.2.pos
  have hNL16 : NL ≤ 16 := by rw [← HNs.out.1]; exact HUs.out.2.le
  have hT0 : 0 < ts.length := by rw [HNs.out.2.1]; have := HZ.out; omega
  have hti : (0 : Int) < (NT : Int) := by have := HZ.out; omega
  have hNT0 : ¬ NT = 0 := HZ.out
  obtain ⟨lab, hlab, hlabN⟩ : ∃ lab : Nat, (IntKind.u64.wrap at_).tmod (NL : Int) = (lab : Int) ∧ lab < NL := by
   have e : IntKind.u64.wrap at_ = at_ % 18446744073709551616 := by simp [IntKind.wrap, IntKind.bits, IntKind.signed]
   have h0 : 0 ≤ at_ % 18446744073709551616 := Int.emod_nonneg _ (by decide)
   refine ⟨((at_ % 18446744073709551616) % (NL : Int)).toNat, ?_, ?_⟩
   · rw [e, Int.tmod_eq_emod_of_nonneg h0, Int.toNat_of_nonneg (Int.emod_nonneg _ (by omega))]
   · have := Int.emod_lt_of_pos (at_ % 18446744073709551616) (b := (NL : Int)) (by omega)
     have h2 := Int.emod_nonneg (at_ % 18446744073709551616) (b := (NL : Int)) (by omega)
     omega
  have hw1 : IntKind.u64.wrap (NL : Int) = (NL : Int) := by simp [IntKind.wrap, IntKind.bits, IntKind.signed]; omega
  have hw2 : IntKind.i64.wrap (lab : Int) = (lab : Int) := by simp [IntKind.wrap, IntKind.bits, IntKind.signed]; omega
  have hn0 : ((NL : Int) == 0) = false := by simp; omega
  have c0 := (hBx.cell (block_lt_of_cell HC0.out.1)).trans HC0.out.1
  have c1 := (hBx.cell (block_lt_of_cell HC0.out.2)).trans HC0.out.2
  have HX := Lib.hid (And.intro hf (And.intro hKt hBx))
  obtain ⟨tb, to_, rfl, k00, k01⟩ := HIn.out.2.1 0 hT0
  simp only [Nat.zero_mul, Nat.add_zero] at k00 k01
  have hj := tab_first HUs.out.1 hT0
  have hcs := tab_cols HUs.out.1 hT0
  have hC := (HIn.out.2.2.1 0 hT0).1
  have hct0 := HIn.out.2.2.2.2.2 _ (List.getElem_mem hT0)
  have k0 := (hBx.cell (block_lt_of_cell k00)).trans k00
  have k1 := (hBx.cell (block_lt_of_cell k01)).trans k01
  generalize ts[0].nm = nm at *
  generalize ts[0].a = cta at *
  generalize ts[0].c = ctc at *
  generalize ts[0].cs = tcs at *
  have HTc := Lib.hid (And.intro hj (And.intro hcs (And.intro hC hct0)))
  have HNw := Lib.hid (fnow_ (hf.on (below_drew wc)))
  unfold NowTo at HNw
  have FT : Hid (∀ V, Below wc.heap.size wc V → V.cell? ⟨w.heap.size, 1, none⟩ = some (.slice (some ⟨tb, to_, none⟩) NT tc)) := fun V hV => (hV.cell (block_lt_of_cell c1)).trans c1
  have FN : Hid (∀ V, Below wc.heap.size wc V → V.cell? ⟨tb, to_, none⟩ = some (.string nm)) := fun V hV => (hV.cell (block_lt_of_cell k0)).trans k0
  have HCells := Lib.hid (And.intro c0 (And.intro c1 (And.intro k0 k1)))
  have hK8 : K ≤ 800000 := Nat.le_trans hKt (Nat.le_trans (wrN_take cl k) HOk.out.2)
  have HVw : Hid (∀ (V1 : World) (sa : Option Addr) (sc : Nat), ZsIn V1 sa (nowL NL x) → Below wc.heap.size wc V1 → Calls Tryz.prog 10 #[.pointer (some ⟨ps, 0, none⟩), .int .i64 (lab : Int), .slice sa NL sc, .string nm, rgV rg0] V1 fun e w' => ∃ (a : Option Addr) (c : Nat) (Zs : List Zr), e = .returned (.tuple #[.slice a (Zs.map rvOf).length c, .nilIface]) ∧ (RwsAt w' V1.heap.size a Zs ∧ (∀ z ∈ Zs, (Rw.kErr tcs z.2 = 0 ∧ ∀ y ∈ z.2, Rw.inI y.n) ∧ Rw.wtV z.2 ≤ 1048576 ∧ z.1.k = ⟨(Rw.kTxt tcs z.2).toArray⟩) ∧ SeenIs (fun a => x.fr a 0) (snapF (nowL NL x)) rg0 (Lt.belowL ls lab) (Zs.map toS)) ∧ Below V1.heap.size V1 w') := fun V1 sa sc hz hb => by
   have hv := fview_ (HX.out.1.on hb) (fun a => Lt.upTo_nodup _ _) (fun a => Nat.le_trans (Lt.upTo_len _ _) HUs.out.2.le) (lab : Int) (sc := sc) hz (by rw [nowL_len]; omega) nm rg0 (by omega)
   rw [has_at hlabN, now_snap, Bool.and_self, nowL_len] at hv
   refine hv.mono fun e w' h => ?_
   obtain ⟨a, c, Zs, he, hr, hg, hs, hb'⟩ := view_ok2 h hj
   rw [hcs] at hg
   exact ⟨a, c, Zs, he, ⟨hr, hg, hs⟩, hb'⟩
  clear hcut hru hf hS hfr hKt hcm hBx HRu hj hcs hC hct0 k00 k01 k0 k1 c1
  go_upto_region 9 with fail
  refine wp_region_noPanic ?_
  refine region_ph (A := fun _ => True) (e1 := 10) (B := (fun V => Below wc.heap.size wc V)) (e2 := 10) (C := (fun _ => True)) (by kernel_rfl) (⟨trivial, fun _ => below_drew wc, fun _ => trivial⟩) (fun hSt => ?_)
  refine take_ph 0 (.pointer (some ⟨ps, 0, none⟩)) [] rfl (by kernel_rfl) (fun _ _ _ h => h) (Or.inl ⟨by rfl, ?_⟩) hSt (fun hSn => ?_)
  · intro V _; go_simp
  clear hSt; rename Ph _ _ _ _ _ _ _ => hSt; simp only [Act.put, prw]
  refine take_ph 1 (.int .i64 (lab : Int)) [] rfl (by kernel_rfl) (fun _ _ _ h => h) (Or.inl ⟨by rfl, ?_⟩) hSt (fun hSn => ?_)
  · intro V _; go_simp
  clear hSt; rename Ph _ _ _ _ _ _ _ => hSt; simp only [Act.put, prw]
  refine take_ph 2 (.pointer (some ⟨ps, 0, none⟩)) [] rfl (by kernel_rfl) (fun _ _ _ h => h) (Or.inl ⟨by rfl, ?_⟩) hSt (fun hSn => ?_)
  · intro V _; go_simp
  clear hSt; rename Ph _ _ _ _ _ _ _ => hSt; simp only [Act.put, prw]
  refine take_ph 4 (.pointer (some ⟨w.heap.size, 1, none⟩)) [] rfl (by kernel_rfl) (fun _ _ _ h => h) (Or.inl ⟨by rfl, ?_⟩) hSt (fun hSn => ?_)
  · intro V _; go_simp
  clear hSt; rename Ph _ _ _ _ _ _ _ => hSt; simp only [Act.put, prw]
  refine take_ph 5 (.slice (some ⟨tb, to_, none⟩) NT tc) [6, 7, 8, 10] rfl (by kernel_rfl) (fun _ _ _ h => h) (Or.inl ⟨by rfl, ?_⟩) hSt (fun hSn => ?_)
  · rintro V ⟨_, hB, hC⟩; have hh := hB (by decide); have e0 := FT.out V hh; clear hB hC; go_simp
  clear hSt; rename Ph _ _ _ _ _ _ _ => hSt; simp only [Act.put, prw]
  refine take_ph 6 (.pointer (some ⟨tb, to_, none⟩)) [] rfl (by kernel_rfl) (fun _ _ _ h => h) (Or.inl ⟨by rfl, ?_⟩) hSt (fun hSn => ?_)
  · intro V _; go_simp
  clear hSt; rename Ph _ _ _ _ _ _ _ => hSt; simp only [Act.put, prw]
  refine take_ph 7 (.pointer (some ⟨tb, to_, none⟩)) [] rfl (by kernel_rfl) (fun _ _ _ h => h) (Or.inl ⟨by rfl, ?_⟩) hSt (fun hSn => ?_)
  · intro V _; go_simp
  clear hSt; rename Ph _ _ _ _ _ _ _ => hSt; simp only [Act.put, prw]
  refine take_ph 8 (.string nm) [10] rfl (by kernel_rfl) (fun _ _ _ h => h) (Or.inl ⟨by rfl, ?_⟩) hSt (fun hSn => ?_)
  · rintro V ⟨_, hB, hC⟩; have hh := hB (by decide); have e0 := FN.out V hh; clear hB hC; go_simp
  clear hSt; rename Ph _ _ _ _ _ _ _ => hSt; simp only [Act.put, prw]
  refine take_ph 9 (.agg #[.string ⟨#[]⟩, .string ⟨#[]⟩, .bool false, .bool false, .bool false, .bool false]) [] rfl (by kernel_rfl) (fun _ _ _ h => h) (Or.inl ⟨by rfl, ?_⟩) hSt (fun hSn => ?_)
  · intro V _; go_simp
  clear hSt; rename Ph _ _ _ _ _ _ _ => hSt; simp only [Act.put, prw]
  refine ready_call_ph 3 rfl (by kernel_rfl) (fun KK hK => ?_)
  go_simp
  go_wp2_with (first | (go_at_call 9; refine HNw.out.mono ?_; rintro e V1 ⟨sa, sc, rfl, hz, hb1⟩))
  refine hK.out _ _ ?_ (fun hSn => ?_)
  · exact ⟨trivial, fun _ => below_step (below_drew wc) hb1, fun _ => trivial⟩
  clear hK KK hSt; rename Ph _ _ _ _ _ _ _ => hSt
  refine ready_call_ph 10 rfl (by kernel_rfl) (fun KK hK => ?_)
  go_simp
  go_wp2_with (first | (go_at_call 10; refine (HVw.out V1 sa sc hz.1 (below_step (below_drew wc) hb1)).mono ?_; rintro e w4 ⟨a4, c4, Zs, rfl, hvw, hb4⟩))
  refine hK.out _ _ ?_ (fun hSn => ?_)
  · exact ⟨trivial, fun h => absurd (show true = false from h) (by decide), fun _ => trivial⟩
  clear hK KK hSt; rename Ph _ _ _ _ _ _ _ => hSt
  refine take_ph 11 (.tuple #[.slice a4 (Zs.map rvOf).length c4, .nilIface]) [] rfl (by kernel_rfl) (fun _ _ _ h => h) (Or.inl ⟨by rfl, ?_⟩) hSt (fun hSn => ?_)
  · intro V _; go_simp
  clear hSt; rename Ph _ _ _ _ _ _ _ => hSt; simp only [Act.put, prw]
  refine take_ph 12 (.slice a4 (Zs.map rvOf).length c4) [] rfl (by kernel_rfl) (fun _ _ _ h => h) (Or.inl ⟨by rfl, ?_⟩) hSt (fun hSn => ?_)
  · intro V _; go_simp
  clear hSt; rename Ph _ _ _ _ _ _ _ => hSt; simp only [Act.put, prw]
  refine take_ph 13 (.nilIface) [] rfl (by kernel_rfl) (fun _ _ _ h => h) (Or.inl ⟨by rfl, ?_⟩) hSt (fun hSn => ?_)
  · intro V _; go_simp
  clear hSt; rename Ph _ _ _ _ _ _ _ => hSt; simp only [Act.put, prw]
  refine take_ph 14 (.slice a4 (Zs.map rvOf).length c4) [] rfl (by kernel_rfl) (fun _ _ _ h => h) (Or.inl ⟨by rfl, ?_⟩) hSt (fun hSn => ?_)
  · intro V _; go_simp
  clear hSt; rename Ph _ _ _ _ _ _ _ => hSt; simp only [Act.put, prw]
  refine take_ph 15 (.nilIface) [] rfl (by kernel_rfl) (fun _ _ _ h => h) (Or.inl ⟨by rfl, ?_⟩) hSt (fun hSn => ?_)
  · intro V _; go_simp
  clear hSt; rename Ph _ _ _ _ _ _ _ => hSt; simp only [Act.put, prw]
  refine done_ph (by kernel_rfl) ?_ _
  clear hSt
  refine NoPanic.normal ?_
  have HB4 := Lib.hid (below_step (below_step (below_drew wc) hb1) hb4)
  have HV4 := Lib.hid hvw
  have HF4 := Lib.hid (HX.out.1.on HB4.out)
  obtain ⟨LZ, hLZ⟩ : ∃ L, (Zs.map rvOf).length = L := ⟨_, rfl⟩
  have hLZ2 : Zs.length = LZ := by rw [← hLZ, List.length_map]
  have hLZl : LZ ≤ 1000000000 := by rw [← hLZ]; exact see_len HF4.out.ok hvw.2.2 (Nat.le_trans (Lt.upTo_len _ _) HUs.out.2.le) (by omega)
  have HLZ := Lib.hid hLZ2
  rw [hLZ]
  clear hvw hb1 hb4 hz hLZ hLZ2 HNw HVw FT FN c0
  go_wp2_with fail
  go_loopw [12, 13, 14] (fun lv pv iv wr => ∃ (i : Nat) (L : ByteArray) (P : Int), i ≤ LZ ∧ iv = .int .i64 i ∧ lv = .string L ∧ pv = .int .i64 P ∧ Hid (∀ h : i - 1 < Zs.length, 0 < i → L = Zs[i - 1].1.k ∧ P = (Zs[i - 1].1.p : Int)) ∧ Hid (Below w4.heap.size w4 wr)) (fun _ _ iv _ => LZ - (intOf iv).toNat)
  case atStart => exact ⟨0, _, _, Nat.zero_le _, rfl, rfl, rfl, fun _ h => absurd h (Nat.lt_irrefl 0), Below.refl _ _⟩
  case round =>
   obtain ⟨i, L, P, hi, rfl, rfl, rfl, HL, HB⟩ := hrel
   have HB4r := Lib.hid (below_step HB4.out HB.out)
   have HBw := Lib.hid (below_step HX.out.2.2 HB4r.out)
   have c0 := (HB4r.out.cell (block_lt_of_cell HCells.out.1)).trans HCells.out.1
   have c1 := (HB4r.out.cell (block_lt_of_cell HCells.out.2.1)).trans HCells.out.2.1
   by_cases hlt : i < LZ
   · have hlt2 : (i : Int) < (LZ : Int) := by omega
     have hi2 : i < Zs.length := by rw [HLZ.out]; exact hlt
     have k0 := (HB4r.out.cell (block_lt_of_cell HCells.out.2.2.1)).trans HCells.out.2.2.1
     have k1 := (HB4r.out.cell (block_lt_of_cell HCells.out.2.2.2)).trans HCells.out.2.2.2
     have hr := HV4.out.1.keep (Frame.below (Ft := fun _ => False) HB.out) (fun _ h => h.elim)
     obtain ⟨g, rfl, _, y0, y1⟩ := hr.row i hi2
     have hzm := List.getElem_mem hi2
     obtain ⟨hv1, hv2, _⟩ := hr.val _ hzm
     obtain ⟨g1, g2, g3⟩ := HV4.out.2.1 _ hzm
     obtain ⟨e1, e2⟩ := keys_row HF4.out.ok HV4.out.2.2 hzm
     have HNot : Hid (0 < i → ltb Zs[i].1.k L = false ∧ (Zs[i].1.k = L → P < (Zs[i].1.p : Int))) := fun h0 => by
      obtain ⟨q1, q2⟩ := HL.out (by omega) h0
      have hk := keys_not HV4.out.2.2 (i := i - 1) (by omega)
      simp only [show i - 1 + 1 = i by omega] at hk
      rw [q1, q2]
      exact ⟨hk.1, fun e => by have := hk.2 e; omega⟩
     have hpn : Zs[i].1.p < NL := by rw [← HNs.out.1]; exact (Lt.mem_upTo.1 e1).1
     have hdm := Lt.mem_below.1 e1
     rw [hv2] at y1
     generalize hzp : Zs[i].1.p = zp at *
     generalize hkt : Zs[i].1.k = kt at *
     generalize Zs[i].1.r.a = ra at *
     generalize Zs[i].1.r.c = rc at *
     generalize Zs[i].2 = vs at *
     have HL2 : Hid (∀ h : i + 1 - 1 < Zs.length, 0 < i + 1 → kt = Zs[i + 1 - 1].1.k ∧ (zp : Int) = (Zs[i + 1 - 1].1.p : Int)) := fun _ _ => ⟨hkt.symm, by rw [← hzp]; rfl⟩
     clear hkt hzp
     obtain ⟨RL, hRL⟩ : ∃ n, vs.length = n := ⟨_, rfl⟩
     obtain ⟨CL, hCL⟩ : ∃ n, tcs.length = n := ⟨_, rfl⟩
     have hvl : vs.length ≤ 1048576 := Nat.le_trans (wtV_len vs) g2
     have HVal := Lib.hid hv1
     have HKy : Hid (Calls Tryz.prog 12 #[.agg #[.string nm, .slice cta CL ctc], .slice ra RL rc] wr.drew fun e w' => e = .returned (.tuple #[.string kt, .int .i64 0]) ∧ Below wr.drew.heap.size wr.drew w') := by
      have := Rw.rkey_ nm cta ctc tcs ra rc vs wr.drew (show Rw.ColsIn wr.drew cta tcs from ((HTc.out.2.2.1.on HBw.out).on (below_drew wr))) (hv1.on (below_drew wr)) g1.2 HTc.out.2.2.2 hvl
      rw [g1.1, ← g3, hRL, hCL] at this
      exact this
     have HDm : Hid (∀ W, Below wr.heap.size wr W → Calls Tryz.prog 13 #[.slice la NL lc, .int .i64 (lab : Int), .int .i64 (zp : Int)] W fun e w' => e = .returned (.bool true) ∧ Below W.heap.size W w') := fun W hW => by
      have := Lt.r2Dom_ la lc (lab : Int) (zp : Int) ls W ((HIn.out.2.2.2.1.on HBw.out).on hW) HIn.out.2.2.2.2.1
      rw [hdm, HNs.out.1] at this
      exact this
     have HOw : Hid (∀ (V7 : World) (sa : Option Addr) (sc : Nat), ZsIn V7 sa (nowL NL x) → Below wr.heap.size wr V7 → Calls Tryz.prog 14 #[.pointer (some ⟨ps, 0, none⟩), .int .i64 (zp : Int), .slice sa NL sc, .string nm, .string kt] V7 fun e w' => ∃ a c, e = .returned (.tuple #[.slice a RL c, .bool true, .nilIface]) ∧ Rw.ValsIn w' a vs ∧ Below V7.heap.size V7 w') := fun V7 sa sc hz hb => by
      have := fown_ ((HF4.out.on HB.out).on hb) hpn (sc := sc) hz (now_snap NL x) HTc.out.1 kt e2 ⟨by rw [HTc.out.2.1]; exact g1.1, g1.2, g2⟩ (by omega)
      rw [nowL_len] at this
      refine this.mono fun e w' h => ?_
      unfold OwnTo at h
      rw [hRL] at h
      exact h
     have HVs : Hid (∀ (a : Option Addr) (c : Nat) W, Rw.ValsIn W a vs → Rw.ValsIn W ra vs → Calls Tryz.prog 15 #[.slice a RL c, .slice ra RL rc] W fun e w' => e = .returned (.bool true) ∧ ∃ m, w' = W.drewN m) := fun a c W h1 h2 => by
      have := Rw.valuesQ_ a ra c rc vs vs W h1 h2 hvl hvl (r := true) (by simp)
      rw [hRL] at this; exact this
     rw [hRL] at y1
     rw [hCL] at k1
     have FT : Hid (∀ V, Below wr.heap.size wr V → V.cell? ⟨w.heap.size, 1, none⟩ = some (.slice (some ⟨tb, to_, none⟩) NT tc)) := fun V hV => (hV.cell (block_lt_of_cell c1)).trans c1
     have FN : Hid (∀ V, Below wr.heap.size wr V → V.cell? ⟨tb, to_, none⟩ = some (.string nm)) := fun V hV => (hV.cell (block_lt_of_cell k0)).trans k0
     have FC : Hid (∀ V, Below wr.heap.size wr V → V.cell? ⟨tb, to_ + 1, none⟩ = some (.slice cta CL ctc)) := fun V hV => (hV.cell (block_lt_of_cell k1)).trans k1
     have FV : Hid (∀ V, Below wr.heap.size wr V → V.cell? ⟨g, i * 2 + 1, none⟩ = some (.slice ra RL rc)) := fun V hV => (hV.cell (block_lt_of_cell y1)).trans y1
     have FP : Hid (∀ V, Below wr.heap.size wr V → V.cell? ⟨g, i * 2, none⟩ = some (.int .i64 (zp : Int))) := fun V hV => (hV.cell (block_lt_of_cell y0)).trans y0
     have FL : Hid (∀ V, Below wr.heap.size wr V → V.cell? ⟨w.heap.size, 0, none⟩ = some (.slice la NL lc)) := fun V hV => (hV.cell (block_lt_of_cell c0)).trans c0
     clear hr hzm hv1 hv2 g1 g2 g3 e1 e2 hpn hdm hRL hCL hvl y0 y1 k0 k1 c0 c1 HL
     go_upto_region 16 with fail
     refine wp_region_noPanic ?_
     refine region_ph (A := fun _ => True) (e1 := 9) (B := (fun V => Below wr.heap.size wr V)) (e2 := 9) (C := (fun _ => True)) (by kernel_rfl) (⟨trivial, fun _ => below_drew wr, fun _ => trivial⟩) (fun hSt => ?_)
     refine take_ph 0 (.pointer (some ⟨w.heap.size, 1, none⟩)) [] rfl (by kernel_rfl) (fun _ _ _ h => h) (Or.inl ⟨by rfl, ?_⟩) hSt (fun hSn => ?_)
     · intro V _; go_simp
     clear hSt; rename Ph _ _ _ _ _ _ _ => hSt; simp only [Act.put, prw]
     refine take_ph 1 (.slice (some ⟨tb, to_, none⟩) NT tc) [2, 3, 9] rfl (by kernel_rfl) (fun _ _ _ h => h) (Or.inl ⟨by rfl, ?_⟩) hSt (fun hSn => ?_)
     · rintro V ⟨_, hB, hC⟩; have hh := hB (by decide); have e0 := FT.out V hh; clear hB hC; go_simp
     clear hSt; rename Ph _ _ _ _ _ _ _ => hSt; simp only [Act.put, prw]
     refine take_ph 2 (.pointer (some ⟨tb, to_, none⟩)) [] rfl (by kernel_rfl) (fun _ _ _ h => h) (Or.inl ⟨by rfl, ?_⟩) hSt (fun hSn => ?_)
     · intro V _; go_simp
     clear hSt; rename Ph _ _ _ _ _ _ _ => hSt; simp only [Act.put, prw]
     refine take_ph 3 (.agg #[.string nm, .slice cta CL ctc]) [9] rfl (by kernel_rfl) (fun _ _ _ h => h) (Or.inl ⟨by rfl, ?_⟩) hSt (fun hSn => ?_)
     · rintro V ⟨_, hB, hC⟩; have hh := hB (by decide); have e0 := FN.out V hh; have e1 := FC.out V hh; clear hB hC; go_simp
     clear hSt; rename Ph _ _ _ _ _ _ _ => hSt; simp only [Act.put, prw]
     refine take_ph 4 (.slice (some ⟨g, 0, none⟩) LZ c4) [] rfl (by kernel_rfl) (fun _ _ _ h => h) (Or.inl ⟨by rfl, ?_⟩) hSt (fun hSn => ?_)
     · intro V _; go_simp
     clear hSt; rename Ph _ _ _ _ _ _ _ => hSt; simp only [Act.put, prw]
     refine take_ph 5 (.int .i64 (i : Int)) [] rfl (by kernel_rfl) (fun _ _ _ h => h) (Or.inl ⟨by rfl, ?_⟩) hSt (fun hSn => ?_)
     · intro V _; go_simp
     clear hSt; rename Ph _ _ _ _ _ _ _ => hSt; simp only [Act.put, prw]
     refine take_ph 6 (.pointer (some ⟨g, i * 2, none⟩)) [] rfl (by kernel_rfl) (fun _ _ _ h => h) (Or.inl ⟨by rfl, ?_⟩) hSt (fun hSn => ?_)
     · intro V _; go_simp
     clear hSt; rename Ph _ _ _ _ _ _ _ => hSt; simp only [Act.put, prw]
     refine take_ph 7 (.pointer (some ⟨g, i * 2 + 1, none⟩)) [] rfl (by kernel_rfl) (fun _ _ _ h => h) (Or.inl ⟨by rfl, ?_⟩) hSt (fun hSn => ?_)
     · intro V _; go_simp
     clear hSt; rename Ph _ _ _ _ _ _ _ => hSt; simp only [Act.put, prw]
     refine take_ph 8 (.slice ra RL rc) [9] rfl (by kernel_rfl) (fun _ _ _ h => h) (Or.inl ⟨by rfl, ?_⟩) hSt (fun hSn => ?_)
     · rintro V ⟨_, hB, hC⟩; have hh := hB (by decide); have e0 := FV.out V hh; clear hB hC; go_simp
     clear hSt; rename Ph _ _ _ _ _ _ _ => hSt; simp only [Act.put, prw]
     refine ready_call_ph 9 rfl (by kernel_rfl) (fun KK hK => ?_)
     go_simp
     go_wp2_with (first | (go_at_call 12; refine HKy.out.mono ?_; rintro e V5 ⟨rfl, hb5⟩))
     refine hK.out _ _ ?_ (fun hSn => ?_)
     · exact ⟨trivial, fun h => absurd (show true = false from h) (by decide), fun _ => trivial⟩
     clear hK KK hSt; rename Ph _ _ _ _ _ _ _ => hSt
     refine take_ph 10 (.tuple #[.string kt, .int .i64 0]) [] rfl (by kernel_rfl) (fun _ _ _ h => h) (Or.inl ⟨by rfl, ?_⟩) hSt (fun hSn => ?_)
     · intro V _; go_simp
     clear hSt; rename Ph _ _ _ _ _ _ _ => hSt; simp only [Act.put, prw]
     refine take_ph 11 (.string kt) [] rfl (by kernel_rfl) (fun _ _ _ h => h) (Or.inl ⟨by rfl, ?_⟩) hSt (fun hSn => ?_)
     · intro V _; go_simp
     clear hSt; rename Ph _ _ _ _ _ _ _ => hSt; simp only [Act.put, prw]
     refine take_ph 12 (.int .i64 0) [] rfl (by kernel_rfl) (fun _ _ _ h => h) (Or.inl ⟨by rfl, ?_⟩) hSt (fun hSn => ?_)
     · intro V _; go_simp
     clear hSt; rename Ph _ _ _ _ _ _ _ => hSt; simp only [Act.put, prw]
     refine take_ph 13 (.string kt) [] rfl (by kernel_rfl) (fun _ _ _ h => h) (Or.inl ⟨by rfl, ?_⟩) hSt (fun hSn => ?_)
     · intro V _; go_simp
     clear hSt; rename Ph _ _ _ _ _ _ _ => hSt; simp only [Act.put, prw]
     refine take_ph 14 (.int .i64 0) [] rfl (by kernel_rfl) (fun _ _ _ h => h) (Or.inl ⟨by rfl, ?_⟩) hSt (fun hSn => ?_)
     · intro V _; go_simp
     clear hSt; rename Ph _ _ _ _ _ _ _ => hSt; simp only [Act.put, prw]
     refine done_ph (by kernel_rfl) ?_ _
     clear hSt
     refine NoPanic.normal ?_
     have HB5 := Lib.hid (below_step (below_drew wr) hb5)
     clear hb5 HKy
     by_cases h0 : 0 < i
     · by_cases h1 : kt = L
       · have g0 : decide ((0 : Int) < (i : Int)) = true := by simp; omega
         have g0' : (0 : Int) < (i : Int) := by omega
         have h2 := (HNot.out h0).2 h1
         subst h1
         have g1 : Op.bytesLess kt.toList kt.toList = false := (HNot.out h0).1
         have g3 : decide ((zp : Int) ≤ P) = false := by simp; omega
         have g3' : ¬ ((zp : Int) ≤ P) := by omega
         clear h2
         have c0 := FL.out _ HB5.out
         have y0 := FP.out _ HB5.out
         have r0 := cell_regrown c0
         have r1 := cell_regrown y0
         have HDm2 := Lib.hid (fun W (hW : Below V5.heap.size V5 W) => HDm.out W (below_step HB5.out hW))
         go_upto_region 17 with fail
         refine wp_region_quiet_below (by kernel_rfl) (by kernel_rfl) ?_
         repeat (go_big_quiet_step (first | (go_at_call 13; exact Calls.regrown_of (HDm2.out _ (below_regrown V5 _ _)))))
         refine wpQuiet_nil ?_
         intro _ hw'
         obtain ⟨⟨dq, osq⟩, hw''⟩ := hw'
         subst hw''
         have HB6 := Lib.hid (below_step HB5.out (below_regrown V5 dq osq))
         generalize _root_.Go.Sort.grow (redrawn V5 dq) osq = V6 at *
         clear r0 r1 c0 y0 HDm HDm2
         have GT : Hid (∀ V, Below V6.heap.size V6 V → V.cell? ⟨w.heap.size, 1, none⟩ = some (.slice (some ⟨tb, to_, none⟩) NT tc)) := fun V hV => FT.out V (below_step HB6.out hV)
         have GN : Hid (∀ V, Below V6.heap.size V6 V → V.cell? ⟨tb, to_, none⟩ = some (.string nm)) := fun V hV => FN.out V (below_step HB6.out hV)
         have GP : Hid (∀ V, Below V6.heap.size V6 V → V.cell? ⟨g, i * 2, none⟩ = some (.int .i64 (zp : Int))) := fun V hV => FP.out V (below_step HB6.out hV)
         have HNw := Lib.hid (fnow_ (((HF4.out.on HB.out).on HB6.out).on (below_drew V6)))
         unfold NowTo at HNw
         clear FT FN FC FL HNot HB5
         go_upto_region 19 with fail
         refine wp_region_noPanic ?_
         refine region_ph (A := fun _ => True) (e1 := 14) (B := (fun V => Below V6.heap.size V6 V)) (e2 := 14) (C := (fun _ => True)) (by kernel_rfl) (⟨trivial, fun _ => below_drew V6, fun _ => trivial⟩) (fun hSt => ?_)
         refine take_ph 0 (.pointer (some ⟨ps, 0, none⟩)) [] rfl (by kernel_rfl) (fun _ _ _ h => h) (Or.inl ⟨by rfl, ?_⟩) hSt (fun hSn => ?_)
         · intro V _; go_simp
         clear hSt; rename Ph _ _ _ _ _ _ _ => hSt; simp only [Act.put, prw]
         refine take_ph 1 (.slice (some ⟨g, 0, none⟩) LZ c4) [] rfl (by kernel_rfl) (fun _ _ _ h => h) (Or.inl ⟨by rfl, ?_⟩) hSt (fun hSn => ?_)
         · intro V _; go_simp
         clear hSt; rename Ph _ _ _ _ _ _ _ => hSt; simp only [Act.put, prw]
         refine take_ph 2 (.int .i64 (i : Int)) [] rfl (by kernel_rfl) (fun _ _ _ h => h) (Or.inl ⟨by rfl, ?_⟩) hSt (fun hSn => ?_)
         · intro V _; go_simp
         clear hSt; rename Ph _ _ _ _ _ _ _ => hSt; simp only [Act.put, prw]
         refine take_ph 3 (.pointer (some ⟨g, i * 2, none⟩)) [] rfl (by kernel_rfl) (fun _ _ _ h => h) (Or.inl ⟨by rfl, ?_⟩) hSt (fun hSn => ?_)
         · intro V _; go_simp
         clear hSt; rename Ph _ _ _ _ _ _ _ => hSt; simp only [Act.put, prw]
         refine take_ph 4 (.pointer (some ⟨g, i * 2, none⟩)) [] rfl (by kernel_rfl) (fun _ _ _ h => h) (Or.inl ⟨by rfl, ?_⟩) hSt (fun hSn => ?_)
         · intro V _; go_simp
         clear hSt; rename Ph _ _ _ _ _ _ _ => hSt; simp only [Act.put, prw]
         refine take_ph 5 (.int .i64 (zp : Int)) [14] rfl (by kernel_rfl) (fun _ _ _ h => h) (Or.inl ⟨by rfl, ?_⟩) hSt (fun hSn => ?_)
         · rintro V ⟨_, hB, hC⟩; have hh := hB (by decide); have e0 := GP.out V hh; clear hB hC; go_simp
         clear hSt; rename Ph _ _ _ _ _ _ _ => hSt; simp only [Act.put, prw]
         refine take_ph 6 (.pointer (some ⟨ps, 0, none⟩)) [] rfl (by kernel_rfl) (fun _ _ _ h => h) (Or.inl ⟨by rfl, ?_⟩) hSt (fun hSn => ?_)
         · intro V _; go_simp
         clear hSt; rename Ph _ _ _ _ _ _ _ => hSt; simp only [Act.put, prw]
         refine take_ph 8 (.pointer (some ⟨w.heap.size, 1, none⟩)) [] rfl (by kernel_rfl) (fun _ _ _ h => h) (Or.inl ⟨by rfl, ?_⟩) hSt (fun hSn => ?_)
         · intro V _; go_simp
         clear hSt; rename Ph _ _ _ _ _ _ _ => hSt; simp only [Act.put, prw]
         refine take_ph 9 (.slice (some ⟨tb, to_, none⟩) NT tc) [10, 11, 12, 14] rfl (by kernel_rfl) (fun _ _ _ h => h) (Or.inl ⟨by rfl, ?_⟩) hSt (fun hSn => ?_)
         · rintro V ⟨_, hB, hC⟩; have hh := hB (by decide); have e0 := GT.out V hh; clear hB hC; go_simp
         clear hSt; rename Ph _ _ _ _ _ _ _ => hSt; simp only [Act.put, prw]
         refine take_ph 10 (.pointer (some ⟨tb, to_, none⟩)) [] rfl (by kernel_rfl) (fun _ _ _ h => h) (Or.inl ⟨by rfl, ?_⟩) hSt (fun hSn => ?_)
         · intro V _; go_simp
         clear hSt; rename Ph _ _ _ _ _ _ _ => hSt; simp only [Act.put, prw]
         refine take_ph 11 (.pointer (some ⟨tb, to_, none⟩)) [] rfl (by kernel_rfl) (fun _ _ _ h => h) (Or.inl ⟨by rfl, ?_⟩) hSt (fun hSn => ?_)
         · intro V _; go_simp
         clear hSt; rename Ph _ _ _ _ _ _ _ => hSt; simp only [Act.put, prw]
         refine take_ph 12 (.string nm) [14] rfl (by kernel_rfl) (fun _ _ _ h => h) (Or.inl ⟨by rfl, ?_⟩) hSt (fun hSn => ?_)
         · rintro V ⟨_, hB, hC⟩; have hh := hB (by decide); have e0 := GN.out V hh; clear hB hC; go_simp
         clear hSt; rename Ph _ _ _ _ _ _ _ => hSt; simp only [Act.put, prw]
         refine take_ph 13 (.string kt) [] rfl (by kernel_rfl) (fun _ _ _ h => h) (Or.inl ⟨by rfl, ?_⟩) hSt (fun hSn => ?_)
         · intro V _; go_simp
         clear hSt; rename Ph _ _ _ _ _ _ _ => hSt; simp only [Act.put, prw]
         refine ready_call_ph 7 rfl (by kernel_rfl) (fun KK hK => ?_)
         go_simp
         go_wp2_with (first | (go_at_call 9; refine HNw.out.mono ?_; rintro e V7 ⟨sa2, sc2, rfl, hz2, hb7⟩))
         refine hK.out _ _ ?_ (fun hSn => ?_)
         · exact ⟨trivial, fun _ => below_step (below_drew V6) hb7, fun _ => trivial⟩
         clear hK KK hSt; rename Ph _ _ _ _ _ _ _ => hSt
         refine ready_call_ph 14 rfl (by kernel_rfl) (fun KK hK => ?_)
         go_simp
         go_wp2_with (first | (go_at_call 14; refine (HOw.out V7 sa2 sc2 hz2.1 (below_step HB6.out (below_step (below_drew V6) hb7))).mono ?_; rintro e V8 ⟨oa, oc, rfl, hov, hb8⟩))
         refine hK.out _ _ ?_ (fun hSn => ?_)
         · exact ⟨trivial, fun h => absurd (show true = false from h) (by decide), fun _ => trivial⟩
         clear hK KK hSt; rename Ph _ _ _ _ _ _ _ => hSt
         refine take_ph 15 (.tuple #[.slice oa RL oc, .bool true, .nilIface]) [] rfl (by kernel_rfl) (fun _ _ _ h => h) (Or.inl ⟨by rfl, ?_⟩) hSt (fun hSn => ?_)
         · intro V _; go_simp
         clear hSt; rename Ph _ _ _ _ _ _ _ => hSt; simp only [Act.put, prw]
         refine take_ph 16 (.slice oa RL oc) [] rfl (by kernel_rfl) (fun _ _ _ h => h) (Or.inl ⟨by rfl, ?_⟩) hSt (fun hSn => ?_)
         · intro V _; go_simp
         clear hSt; rename Ph _ _ _ _ _ _ _ => hSt; simp only [Act.put, prw]
         refine take_ph 17 (.bool true) [] rfl (by kernel_rfl) (fun _ _ _ h => h) (Or.inl ⟨by rfl, ?_⟩) hSt (fun hSn => ?_)
         · intro V _; go_simp
         clear hSt; rename Ph _ _ _ _ _ _ _ => hSt; simp only [Act.put, prw]
         refine take_ph 18 (.nilIface) [] rfl (by kernel_rfl) (fun _ _ _ h => h) (Or.inl ⟨by rfl, ?_⟩) hSt (fun hSn => ?_)
         · intro V _; go_simp
         clear hSt; rename Ph _ _ _ _ _ _ _ => hSt; simp only [Act.put, prw]
         refine take_ph 19 (.slice oa RL oc) [] rfl (by kernel_rfl) (fun _ _ _ h => h) (Or.inl ⟨by rfl, ?_⟩) hSt (fun hSn => ?_)
         · intro V _; go_simp
         clear hSt; rename Ph _ _ _ _ _ _ _ => hSt; simp only [Act.put, prw]
         refine take_ph 20 (.bool true) [] rfl (by kernel_rfl) (fun _ _ _ h => h) (Or.inl ⟨by rfl, ?_⟩) hSt (fun hSn => ?_)
         · intro V _; go_simp
         clear hSt; rename Ph _ _ _ _ _ _ _ => hSt; simp only [Act.put, prw]
         refine take_ph 21 (.nilIface) [] rfl (by kernel_rfl) (fun _ _ _ h => h) (Or.inl ⟨by rfl, ?_⟩) hSt (fun hSn => ?_)
         · intro V _; go_simp
         clear hSt; rename Ph _ _ _ _ _ _ _ => hSt; simp only [Act.put, prw]
         refine done_ph (by kernel_rfl) ?_ _
         clear hSt
         refine NoPanic.normal ?_
         have HB8 := Lib.hid (below_step HB6.out (below_step (below_step (below_drew V6) hb7) hb8))
         have HOv := Lib.hid hov
         have y1 := FV.out _ HB8.out
         clear hz2 hb7 hb8 hov HNw HOw GT GN GP
         go_wp2_with fail
         refine (HVs.out _ _ _ HOv.out (HVal.out.on HB8.out)).mono ?_
         rintro e V9 ⟨rfl, m9, hm9⟩
         have HB9 : Hid (Below wr.heap.size wr V9) := by
          rw [hm9]
          exact below_step HB8.out ⟨rfl, rfl, rfl, Nat.le_refl _, fun _ _ => rfl⟩
         have y0 := FP.out _ HB9.out
         have hd0 : decide (0 ≤ (i : Int)) = true := by simp
         have hd1 : decide ((i : Int) < (LZ : Int)) = true := by simpa using hlt2
         clear hm9 HVs HVal HOv HB8 y1
         go_wp2_with fail
         go_quiet (fail)
         have HBq := Lib.hid (below_step HB.out (below_step HB9.out ⟨rfl, rfl, rfl, Nat.le_refl _, fun _ _ => rfl⟩ : Below wr.heap.size wr (V9.drewN nq)))
         go_wp2_with fail
         go_roundw
         case rel => exact ⟨i + 1, kt, (zp : Int), by omega, by go_num, rfl, rfl, HL2, HBq⟩
         case measure => simp [intOf]; omega
       · have g0 : decide ((0 : Int) < (i : Int)) = true := by simp; omega
         have g0' : (0 : Int) < (i : Int) := by omega
         have g1 : Op.bytesLess kt.toList L.toList = false := (HNot.out h0).1
         have g2 : (kt.toList == L.toList) = false := by
          cases e : (kt.toList == L.toList) with
          | false => rfl
          | true => exact absurd (toList_inj (beq_iff_eq.1 e)) h1
         have c0 := FL.out _ HB5.out
         have y0 := FP.out _ HB5.out
         have r0 := cell_regrown c0
         have r1 := cell_regrown y0
         have HDm2 := Lib.hid (fun W (hW : Below V5.heap.size V5 W) => HDm.out W (below_step HB5.out hW))
         go_upto_region 17 with fail
         refine wp_region_quiet_below (by kernel_rfl) (by kernel_rfl) ?_
         repeat (go_big_quiet_step (first | (go_at_call 13; exact Calls.regrown_of (HDm2.out _ (below_regrown V5 _ _)))))
         refine wpQuiet_nil ?_
         intro _ hw'
         obtain ⟨⟨dq, osq⟩, hw''⟩ := hw'
         subst hw''
         have HB6 := Lib.hid (below_step HB5.out (below_regrown V5 dq osq))
         generalize _root_.Go.Sort.grow (redrawn V5 dq) osq = V6 at *
         clear r0 r1 c0 y0 HDm HDm2
         have GT : Hid (∀ V, Below V6.heap.size V6 V → V.cell? ⟨w.heap.size, 1, none⟩ = some (.slice (some ⟨tb, to_, none⟩) NT tc)) := fun V hV => FT.out V (below_step HB6.out hV)
         have GN : Hid (∀ V, Below V6.heap.size V6 V → V.cell? ⟨tb, to_, none⟩ = some (.string nm)) := fun V hV => FN.out V (below_step HB6.out hV)
         have GP : Hid (∀ V, Below V6.heap.size V6 V → V.cell? ⟨g, i * 2, none⟩ = some (.int .i64 (zp : Int))) := fun V hV => FP.out V (below_step HB6.out hV)
         have HNw := Lib.hid (fnow_ (((HF4.out.on HB.out).on HB6.out).on (below_drew V6)))
         unfold NowTo at HNw
         clear FT FN FC FL HNot HB5
         go_upto_region 19 with fail
         refine wp_region_noPanic ?_
         refine region_ph (A := fun _ => True) (e1 := 14) (B := (fun V => Below V6.heap.size V6 V)) (e2 := 14) (C := (fun _ => True)) (by kernel_rfl) (⟨trivial, fun _ => below_drew V6, fun _ => trivial⟩) (fun hSt => ?_)
         refine take_ph 0 (.pointer (some ⟨ps, 0, none⟩)) [] rfl (by kernel_rfl) (fun _ _ _ h => h) (Or.inl ⟨by rfl, ?_⟩) hSt (fun hSn => ?_)
         · intro V _; go_simp
         clear hSt; rename Ph _ _ _ _ _ _ _ => hSt; simp only [Act.put, prw]
         refine take_ph 1 (.slice (some ⟨g, 0, none⟩) LZ c4) [] rfl (by kernel_rfl) (fun _ _ _ h => h) (Or.inl ⟨by rfl, ?_⟩) hSt (fun hSn => ?_)
         · intro V _; go_simp
         clear hSt; rename Ph _ _ _ _ _ _ _ => hSt; simp only [Act.put, prw]
         refine take_ph 2 (.int .i64 (i : Int)) [] rfl (by kernel_rfl) (fun _ _ _ h => h) (Or.inl ⟨by rfl, ?_⟩) hSt (fun hSn => ?_)
         · intro V _; go_simp
         clear hSt; rename Ph _ _ _ _ _ _ _ => hSt; simp only [Act.put, prw]
         refine take_ph 3 (.pointer (some ⟨g, i * 2, none⟩)) [] rfl (by kernel_rfl) (fun _ _ _ h => h) (Or.inl ⟨by rfl, ?_⟩) hSt (fun hSn => ?_)
         · intro V _; go_simp
         clear hSt; rename Ph _ _ _ _ _ _ _ => hSt; simp only [Act.put, prw]
         refine take_ph 4 (.pointer (some ⟨g, i * 2, none⟩)) [] rfl (by kernel_rfl) (fun _ _ _ h => h) (Or.inl ⟨by rfl, ?_⟩) hSt (fun hSn => ?_)
         · intro V _; go_simp
         clear hSt; rename Ph _ _ _ _ _ _ _ => hSt; simp only [Act.put, prw]
         refine take_ph 5 (.int .i64 (zp : Int)) [14] rfl (by kernel_rfl) (fun _ _ _ h => h) (Or.inl ⟨by rfl, ?_⟩) hSt (fun hSn => ?_)
         · rintro V ⟨_, hB, hC⟩; have hh := hB (by decide); have e0 := GP.out V hh; clear hB hC; go_simp
         clear hSt; rename Ph _ _ _ _ _ _ _ => hSt; simp only [Act.put, prw]
         refine take_ph 6 (.pointer (some ⟨ps, 0, none⟩)) [] rfl (by kernel_rfl) (fun _ _ _ h => h) (Or.inl ⟨by rfl, ?_⟩) hSt (fun hSn => ?_)
         · intro V _; go_simp
         clear hSt; rename Ph _ _ _ _ _ _ _ => hSt; simp only [Act.put, prw]
         refine take_ph 8 (.pointer (some ⟨w.heap.size, 1, none⟩)) [] rfl (by kernel_rfl) (fun _ _ _ h => h) (Or.inl ⟨by rfl, ?_⟩) hSt (fun hSn => ?_)
         · intro V _; go_simp
         clear hSt; rename Ph _ _ _ _ _ _ _ => hSt; simp only [Act.put, prw]
         refine take_ph 9 (.slice (some ⟨tb, to_, none⟩) NT tc) [10, 11, 12, 14] rfl (by kernel_rfl) (fun _ _ _ h => h) (Or.inl ⟨by rfl, ?_⟩) hSt (fun hSn => ?_)
         · rintro V ⟨_, hB, hC⟩; have hh := hB (by decide); have e0 := GT.out V hh; clear hB hC; go_simp
         clear hSt; rename Ph _ _ _ _ _ _ _ => hSt; simp only [Act.put, prw]
         refine take_ph 10 (.pointer (some ⟨tb, to_, none⟩)) [] rfl (by kernel_rfl) (fun _ _ _ h => h) (Or.inl ⟨by rfl, ?_⟩) hSt (fun hSn => ?_)
         · intro V _; go_simp
         clear hSt; rename Ph _ _ _ _ _ _ _ => hSt; simp only [Act.put, prw]
         refine take_ph 11 (.pointer (some ⟨tb, to_, none⟩)) [] rfl (by kernel_rfl) (fun _ _ _ h => h) (Or.inl ⟨by rfl, ?_⟩) hSt (fun hSn => ?_)
         · intro V _; go_simp
         clear hSt; rename Ph _ _ _ _ _ _ _ => hSt; simp only [Act.put, prw]
         refine take_ph 12 (.string nm) [14] rfl (by kernel_rfl) (fun _ _ _ h => h) (Or.inl ⟨by rfl, ?_⟩) hSt (fun hSn => ?_)
         · rintro V ⟨_, hB, hC⟩; have hh := hB (by decide); have e0 := GN.out V hh; clear hB hC; go_simp
         clear hSt; rename Ph _ _ _ _ _ _ _ => hSt; simp only [Act.put, prw]
         refine take_ph 13 (.string kt) [] rfl (by kernel_rfl) (fun _ _ _ h => h) (Or.inl ⟨by rfl, ?_⟩) hSt (fun hSn => ?_)
         · intro V _; go_simp
         clear hSt; rename Ph _ _ _ _ _ _ _ => hSt; simp only [Act.put, prw]
         refine ready_call_ph 7 rfl (by kernel_rfl) (fun KK hK => ?_)
         go_simp
         go_wp2_with (first | (go_at_call 9; refine HNw.out.mono ?_; rintro e V7 ⟨sa2, sc2, rfl, hz2, hb7⟩))
         refine hK.out _ _ ?_ (fun hSn => ?_)
         · exact ⟨trivial, fun _ => below_step (below_drew V6) hb7, fun _ => trivial⟩
         clear hK KK hSt; rename Ph _ _ _ _ _ _ _ => hSt
         refine ready_call_ph 14 rfl (by kernel_rfl) (fun KK hK => ?_)
         go_simp
         go_wp2_with (first | (go_at_call 14; refine (HOw.out V7 sa2 sc2 hz2.1 (below_step HB6.out (below_step (below_drew V6) hb7))).mono ?_; rintro e V8 ⟨oa, oc, rfl, hov, hb8⟩))
         refine hK.out _ _ ?_ (fun hSn => ?_)
         · exact ⟨trivial, fun h => absurd (show true = false from h) (by decide), fun _ => trivial⟩
         clear hK KK hSt; rename Ph _ _ _ _ _ _ _ => hSt
         refine take_ph 15 (.tuple #[.slice oa RL oc, .bool true, .nilIface]) [] rfl (by kernel_rfl) (fun _ _ _ h => h) (Or.inl ⟨by rfl, ?_⟩) hSt (fun hSn => ?_)
         · intro V _; go_simp
         clear hSt; rename Ph _ _ _ _ _ _ _ => hSt; simp only [Act.put, prw]
         refine take_ph 16 (.slice oa RL oc) [] rfl (by kernel_rfl) (fun _ _ _ h => h) (Or.inl ⟨by rfl, ?_⟩) hSt (fun hSn => ?_)
         · intro V _; go_simp
         clear hSt; rename Ph _ _ _ _ _ _ _ => hSt; simp only [Act.put, prw]
         refine take_ph 17 (.bool true) [] rfl (by kernel_rfl) (fun _ _ _ h => h) (Or.inl ⟨by rfl, ?_⟩) hSt (fun hSn => ?_)
         · intro V _; go_simp
         clear hSt; rename Ph _ _ _ _ _ _ _ => hSt; simp only [Act.put, prw]
         refine take_ph 18 (.nilIface) [] rfl (by kernel_rfl) (fun _ _ _ h => h) (Or.inl ⟨by rfl, ?_⟩) hSt (fun hSn => ?_)
         · intro V _; go_simp
         clear hSt; rename Ph _ _ _ _ _ _ _ => hSt; simp only [Act.put, prw]
         refine take_ph 19 (.slice oa RL oc) [] rfl (by kernel_rfl) (fun _ _ _ h => h) (Or.inl ⟨by rfl, ?_⟩) hSt (fun hSn => ?_)
         · intro V _; go_simp
         clear hSt; rename Ph _ _ _ _ _ _ _ => hSt; simp only [Act.put, prw]
         refine take_ph 20 (.bool true) [] rfl (by kernel_rfl) (fun _ _ _ h => h) (Or.inl ⟨by rfl, ?_⟩) hSt (fun hSn => ?_)
         · intro V _; go_simp
         clear hSt; rename Ph _ _ _ _ _ _ _ => hSt; simp only [Act.put, prw]
         refine take_ph 21 (.nilIface) [] rfl (by kernel_rfl) (fun _ _ _ h => h) (Or.inl ⟨by rfl, ?_⟩) hSt (fun hSn => ?_)
         · intro V _; go_simp
         clear hSt; rename Ph _ _ _ _ _ _ _ => hSt; simp only [Act.put, prw]
         refine done_ph (by kernel_rfl) ?_ _
         clear hSt
         refine NoPanic.normal ?_
         have HB8 := Lib.hid (below_step HB6.out (below_step (below_step (below_drew V6) hb7) hb8))
         have HOv := Lib.hid hov
         have y1 := FV.out _ HB8.out
         clear hz2 hb7 hb8 hov HNw HOw GT GN GP
         go_wp2_with fail
         refine (HVs.out _ _ _ HOv.out (HVal.out.on HB8.out)).mono ?_
         rintro e V9 ⟨rfl, m9, hm9⟩
         have HB9 : Hid (Below wr.heap.size wr V9) := by
          rw [hm9]
          exact below_step HB8.out ⟨rfl, rfl, rfl, Nat.le_refl _, fun _ _ => rfl⟩
         have y0 := FP.out _ HB9.out
         have hd0 : decide (0 ≤ (i : Int)) = true := by simp
         have hd1 : decide ((i : Int) < (LZ : Int)) = true := by simpa using hlt2
         clear hm9 HVs HVal HOv HB8 y1
         go_wp2_with fail
         go_quiet (fail)
         have HBq := Lib.hid (below_step HB.out (below_step HB9.out ⟨rfl, rfl, rfl, Nat.le_refl _, fun _ _ => rfl⟩ : Below wr.heap.size wr (V9.drewN nq)))
         go_wp2_with fail
         go_roundw
         case rel => exact ⟨i + 1, kt, (zp : Int), by omega, by go_num, rfl, rfl, HL2, HBq⟩
         case measure => simp [intOf]; omega
     · have g0 : decide ((0 : Int) < (i : Int)) = false := by simp; omega
       have g0' : ¬ ((0 : Int) < (i : Int)) := by omega
       have c0 := FL.out _ HB5.out
       have y0 := FP.out _ HB5.out
       have r0 := cell_regrown c0
       have r1 := cell_regrown y0
       have HDm2 := Lib.hid (fun W (hW : Below V5.heap.size V5 W) => HDm.out W (below_step HB5.out hW))
       go_upto_region 17 with fail
       refine wp_region_quiet_below (by kernel_rfl) (by kernel_rfl) ?_
       repeat (go_big_quiet_step (first | (go_at_call 13; exact Calls.regrown_of (HDm2.out _ (below_regrown V5 _ _)))))
       refine wpQuiet_nil ?_
       intro _ hw'
       obtain ⟨⟨dq, osq⟩, hw''⟩ := hw'
       subst hw''
       have HB6 := Lib.hid (below_step HB5.out (below_regrown V5 dq osq))
       generalize _root_.Go.Sort.grow (redrawn V5 dq) osq = V6 at *
       clear r0 r1 c0 y0 HDm HDm2
       have GT : Hid (∀ V, Below V6.heap.size V6 V → V.cell? ⟨w.heap.size, 1, none⟩ = some (.slice (some ⟨tb, to_, none⟩) NT tc)) := fun V hV => FT.out V (below_step HB6.out hV)
       have GN : Hid (∀ V, Below V6.heap.size V6 V → V.cell? ⟨tb, to_, none⟩ = some (.string nm)) := fun V hV => FN.out V (below_step HB6.out hV)
       have GP : Hid (∀ V, Below V6.heap.size V6 V → V.cell? ⟨g, i * 2, none⟩ = some (.int .i64 (zp : Int))) := fun V hV => FP.out V (below_step HB6.out hV)
       have HNw := Lib.hid (fnow_ (((HF4.out.on HB.out).on HB6.out).on (below_drew V6)))
       unfold NowTo at HNw
       clear FT FN FC FL HNot HB5
       go_upto_region 19 with fail
       refine wp_region_noPanic ?_
       refine region_ph (A := fun _ => True) (e1 := 14) (B := (fun V => Below V6.heap.size V6 V)) (e2 := 14) (C := (fun _ => True)) (by kernel_rfl) (⟨trivial, fun _ => below_drew V6, fun _ => trivial⟩) (fun hSt => ?_)
       refine take_ph 0 (.pointer (some ⟨ps, 0, none⟩)) [] rfl (by kernel_rfl) (fun _ _ _ h => h) (Or.inl ⟨by rfl, ?_⟩) hSt (fun hSn => ?_)
       · intro V _; go_simp
       clear hSt; rename Ph _ _ _ _ _ _ _ => hSt; simp only [Act.put, prw]
       refine take_ph 1 (.slice (some ⟨g, 0, none⟩) LZ c4) [] rfl (by kernel_rfl) (fun _ _ _ h => h) (Or.inl ⟨by rfl, ?_⟩) hSt (fun hSn => ?_)
       · intro V _; go_simp
       clear hSt; rename Ph _ _ _ _ _ _ _ => hSt; simp only [Act.put, prw]
       refine take_ph 2 (.int .i64 (i : Int)) [] rfl (by kernel_rfl) (fun _ _ _ h => h) (Or.inl ⟨by rfl, ?_⟩) hSt (fun hSn => ?_)
       · intro V _; go_simp
       clear hSt; rename Ph _ _ _ _ _ _ _ => hSt; simp only [Act.put, prw]
       refine take_ph 3 (.pointer (some ⟨g, i * 2, none⟩)) [] rfl (by kernel_rfl) (fun _ _ _ h => h) (Or.inl ⟨by rfl, ?_⟩) hSt (fun hSn => ?_)
       · intro V _; go_simp
       clear hSt; rename Ph _ _ _ _ _ _ _ => hSt; simp only [Act.put, prw]
       refine take_ph 4 (.pointer (some ⟨g, i * 2, none⟩)) [] rfl (by kernel_rfl) (fun _ _ _ h => h) (Or.inl ⟨by rfl, ?_⟩) hSt (fun hSn => ?_)
       · intro V _; go_simp
       clear hSt; rename Ph _ _ _ _ _ _ _ => hSt; simp only [Act.put, prw]
       refine take_ph 5 (.int .i64 (zp : Int)) [14] rfl (by kernel_rfl) (fun _ _ _ h => h) (Or.inl ⟨by rfl, ?_⟩) hSt (fun hSn => ?_)
       · rintro V ⟨_, hB, hC⟩; have hh := hB (by decide); have e0 := GP.out V hh; clear hB hC; go_simp
       clear hSt; rename Ph _ _ _ _ _ _ _ => hSt; simp only [Act.put, prw]
       refine take_ph 6 (.pointer (some ⟨ps, 0, none⟩)) [] rfl (by kernel_rfl) (fun _ _ _ h => h) (Or.inl ⟨by rfl, ?_⟩) hSt (fun hSn => ?_)
       · intro V _; go_simp
       clear hSt; rename Ph _ _ _ _ _ _ _ => hSt; simp only [Act.put, prw]
       refine take_ph 8 (.pointer (some ⟨w.heap.size, 1, none⟩)) [] rfl (by kernel_rfl) (fun _ _ _ h => h) (Or.inl ⟨by rfl, ?_⟩) hSt (fun hSn => ?_)
       · intro V _; go_simp
       clear hSt; rename Ph _ _ _ _ _ _ _ => hSt; simp only [Act.put, prw]
       refine take_ph 9 (.slice (some ⟨tb, to_, none⟩) NT tc) [10, 11, 12, 14] rfl (by kernel_rfl) (fun _ _ _ h => h) (Or.inl ⟨by rfl, ?_⟩) hSt (fun hSn => ?_)
       · rintro V ⟨_, hB, hC⟩; have hh := hB (by decide); have e0 := GT.out V hh; clear hB hC; go_simp
       clear hSt; rename Ph _ _ _ _ _ _ _ => hSt; simp only [Act.put, prw]
       refine take_ph 10 (.pointer (some ⟨tb, to_, none⟩)) [] rfl (by kernel_rfl) (fun _ _ _ h => h) (Or.inl ⟨by rfl, ?_⟩) hSt (fun hSn => ?_)
       · intro V _; go_simp
       clear hSt; rename Ph _ _ _ _ _ _ _ => hSt; simp only [Act.put, prw]
       refine take_ph 11 (.pointer (some ⟨tb, to_, none⟩)) [] rfl (by kernel_rfl) (fun _ _ _ h => h) (Or.inl ⟨by rfl, ?_⟩) hSt (fun hSn => ?_)
       · intro V _; go_simp
       clear hSt; rename Ph _ _ _ _ _ _ _ => hSt; simp only [Act.put, prw]
       refine take_ph 12 (.string nm) [14] rfl (by kernel_rfl) (fun _ _ _ h => h) (Or.inl ⟨by rfl, ?_⟩) hSt (fun hSn => ?_)
       · rintro V ⟨_, hB, hC⟩; have hh := hB (by decide); have e0 := GN.out V hh; clear hB hC; go_simp
       clear hSt; rename Ph _ _ _ _ _ _ _ => hSt; simp only [Act.put, prw]
       refine take_ph 13 (.string kt) [] rfl (by kernel_rfl) (fun _ _ _ h => h) (Or.inl ⟨by rfl, ?_⟩) hSt (fun hSn => ?_)
       · intro V _; go_simp
       clear hSt; rename Ph _ _ _ _ _ _ _ => hSt; simp only [Act.put, prw]
       refine ready_call_ph 7 rfl (by kernel_rfl) (fun KK hK => ?_)
       go_simp
       go_wp2_with (first | (go_at_call 9; refine HNw.out.mono ?_; rintro e V7 ⟨sa2, sc2, rfl, hz2, hb7⟩))
       refine hK.out _ _ ?_ (fun hSn => ?_)
       · exact ⟨trivial, fun _ => below_step (below_drew V6) hb7, fun _ => trivial⟩
       clear hK KK hSt; rename Ph _ _ _ _ _ _ _ => hSt
       refine ready_call_ph 14 rfl (by kernel_rfl) (fun KK hK => ?_)
       go_simp
       go_wp2_with (first | (go_at_call 14; refine (HOw.out V7 sa2 sc2 hz2.1 (below_step HB6.out (below_step (below_drew V6) hb7))).mono ?_; rintro e V8 ⟨oa, oc, rfl, hov, hb8⟩))
       refine hK.out _ _ ?_ (fun hSn => ?_)
       · exact ⟨trivial, fun h => absurd (show true = false from h) (by decide), fun _ => trivial⟩
       clear hK KK hSt; rename Ph _ _ _ _ _ _ _ => hSt
       refine take_ph 15 (.tuple #[.slice oa RL oc, .bool true, .nilIface]) [] rfl (by kernel_rfl) (fun _ _ _ h => h) (Or.inl ⟨by rfl, ?_⟩) hSt (fun hSn => ?_)
       · intro V _; go_simp
       clear hSt; rename Ph _ _ _ _ _ _ _ => hSt; simp only [Act.put, prw]
       refine take_ph 16 (.slice oa RL oc) [] rfl (by kernel_rfl) (fun _ _ _ h => h) (Or.inl ⟨by rfl, ?_⟩) hSt (fun hSn => ?_)
       · intro V _; go_simp
       clear hSt; rename Ph _ _ _ _ _ _ _ => hSt; simp only [Act.put, prw]
       refine take_ph 17 (.bool true) [] rfl (by kernel_rfl) (fun _ _ _ h => h) (Or.inl ⟨by rfl, ?_⟩) hSt (fun hSn => ?_)
       · intro V _; go_simp
       clear hSt; rename Ph _ _ _ _ _ _ _ => hSt; simp only [Act.put, prw]
       refine take_ph 18 (.nilIface) [] rfl (by kernel_rfl) (fun _ _ _ h => h) (Or.inl ⟨by rfl, ?_⟩) hSt (fun hSn => ?_)
       · intro V _; go_simp
       clear hSt; rename Ph _ _ _ _ _ _ _ => hSt; simp only [Act.put, prw]
       refine take_ph 19 (.slice oa RL oc) [] rfl (by kernel_rfl) (fun _ _ _ h => h) (Or.inl ⟨by rfl, ?_⟩) hSt (fun hSn => ?_)
       · intro V _; go_simp
       clear hSt; rename Ph _ _ _ _ _ _ _ => hSt; simp only [Act.put, prw]
       refine take_ph 20 (.bool true) [] rfl (by kernel_rfl) (fun _ _ _ h => h) (Or.inl ⟨by rfl, ?_⟩) hSt (fun hSn => ?_)
       · intro V _; go_simp
       clear hSt; rename Ph _ _ _ _ _ _ _ => hSt; simp only [Act.put, prw]
       refine take_ph 21 (.nilIface) [] rfl (by kernel_rfl) (fun _ _ _ h => h) (Or.inl ⟨by rfl, ?_⟩) hSt (fun hSn => ?_)
       · intro V _; go_simp
       clear hSt; rename Ph _ _ _ _ _ _ _ => hSt; simp only [Act.put, prw]
       refine done_ph (by kernel_rfl) ?_ _
       clear hSt
       refine NoPanic.normal ?_
       have HB8 := Lib.hid (below_step HB6.out (below_step (below_step (below_drew V6) hb7) hb8))
       have HOv := Lib.hid hov
       have y1 := FV.out _ HB8.out
       clear hz2 hb7 hb8 hov HNw HOw GT GN GP
       go_wp2_with fail
       refine (HVs.out _ _ _ HOv.out (HVal.out.on HB8.out)).mono ?_
       rintro e V9 ⟨rfl, m9, hm9⟩
       have HB9 : Hid (Below wr.heap.size wr V9) := by
        rw [hm9]
        exact below_step HB8.out ⟨rfl, rfl, rfl, Nat.le_refl _, fun _ _ => rfl⟩
       have y0 := FP.out _ HB9.out
       have hd0 : decide (0 ≤ (i : Int)) = true := by simp
       have hd1 : decide ((i : Int) < (LZ : Int)) = true := by simpa using hlt2
       clear hm9 HVs HVal HOv HB8 y1
       go_wp2_with fail
       go_quiet (fail)
       have HBq := Lib.hid (below_step HB.out (below_step HB9.out ⟨rfl, rfl, rfl, Nat.le_refl _, fun _ _ => rfl⟩ : Below wr.heap.size wr (V9.drewN nq)))
       go_wp2_with fail
       go_roundw
       case rel => exact ⟨i + 1, kt, (zp : Int), by omega, by go_num, rfl, rfl, HL2, HBq⟩
       case measure => simp [intOf]; omega
   · obtain rfl : i = LZ := by omega
     have hlt2 : ¬ ((i : Int) < (i : Int)) := by omega
     clear HL
     go_wp2_with fail
     refine (sure_ _).mono ?_
     rintro e w8 ⟨rfl, hb8⟩
     have HE := Lib.hid (below_step (below_step HB1.out (below_step HX.out.2.2 HB4r.out)) hb8)
     clear hb8
     go_wp2_with fail
     go_ret
     exact ⟨rfl, HE.out⟩
end Go.Proofs.YtalmanfjiblhcaaGreat
