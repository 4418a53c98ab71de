/- The walk of the law's step, but for the restart. -/
import Derived.Test.YtjnhcanohefjiaaGreatDoorRjKeep
namespace Go.Proofs.YtjnhcanohefjiaaGreatDoor
open Go.RowKit Go.Sort Go.Maps

set_option maxRecDepth 100000 in
set_option maxHeartbeats 8000000 in
theorem step2_ {w0 w : World} {X : Nat → Prop} {p aa bb q : Nat} {d : Dev} {K : Nat} {J : Jr} {rv ev : Value} {x : RD} {ra : Option Addr} {rc : Nat} {ea : Option Addr} {ec : Nat} {a : Ar} {A : ActV} {v0 v1 v2 v3 v4 v5 u0 u1 u2 u3 u4 u5 u6 u7 u8 : Value} (h : Wd w0 w X p aa bb q d K J rv ev x ra rc ea ec a) (hA : AOk w0 A) (hE : ErrType w0) (hK : K + 24 ≤ 1000000) (hv : rdV x ra rc = .agg #[v0, v1, v2, v3, v4, v5]) (hv1 : (#[v0, v1, v2, v3, v4, v5] : Array Value).all (·.oneCell') = true) (hu : rjV J ea ec = .agg #[u0, u1, u2, u3, u4, u5, u6, u7, u8]) (hu1 : (#[u0, u1, u2, u3, u4, u5, u6, u7, u8] : Array Value).all (·.oneCell') = true) (hk : wrap64 ((IntKind.u64.wrap A.kind).tmod 7) = 2 ∧ IntKind.i64.wrap ((IntKind.u64.wrap A.kind).tmod 7) = 2) :
    Calls Tryz.prog 12 #[.agg #[.pointer (some ⟨p, 0, none⟩), .pointer (some ⟨q, 0, none⟩), v0, v1, v2, v3, v4, v5, u0, u1, u2, u3, u4, u5, u6, u7, u8], arV a, actV A] w (StTo w0 w X (Mine p aa bb q rv ev) p aa bb K a) := by
  obtain ⟨kd, at', da, dxs, dc, ca, cs, cc⟩ := A
  have HP := Lib.hid h
  have HA := Lib.hid hA
  have HE := Lib.hid hE
  have hs12 : a.s.toNat ≤ 12 := by have q1 := h.inn.2.2.2.2.1; rw [h.rs.2] at q1; omega
  have hja := h.ja
  have HOk := Lib.hid h.jn.jr.ok
  have HV := Lib.hid (And.intro hv hv1)
  have HUu := Lib.hid (And.intro hu hu1)
  obtain ⟨ag, af, az⟩ := a
  unfold actV arV
  dsimp only at hk hs12 ⊢
  generalize hn : dxs.length = n at *
  generalize hcn : cs.length = cn at *
  have HN := Lib.hid hn
  have HCN := Lib.hid hcn
  have HDL : Hid (n ≤ 140737488351232) := by
    have q : dxs.length ≤ 140737488351232 := HA.out.dl
    rw [hn] at q; exact q
  obtain ⟨W, hW⟩ : ∃ W, W = (((w.alloc (.cells #[.pointer (some ⟨p, 0, none⟩), .pointer (some ⟨q, 0, none⟩), v0, v1, v2, v3, v4, v5, u0, u1, u2, u3, u4, u5, u6, u7, u8] 49)).alloc (.cells #[.int .i64 ag, .int .i64 af, .int .i64 az] 36)).alloc (.cells #[.int .i64 kd, .int .i64 at', .slice da n dc, .slice ca cn cc] 55)).alloc (.cells #[.pointer none, .pointer none, .int .i64 0, .int .i64 0, .slice none 0 0, .bool false, .bool false, .int .i64 0, .int .i64 0, .int .i64 0, .int .i64 0, .int .u64 0, .string ⟨#[]⟩, .slice none 0 0, .int .i64 0, .int .i64 0, .int .i64 0] 49) := ⟨_, rfl⟩
  have hWf := four_at w (.cells #[.pointer (some ⟨p, 0, none⟩), .pointer (some ⟨q, 0, none⟩), v0, v1, v2, v3, v4, v5, u0, u1, u2, u3, u4, u5, u6, u7, u8] 49) (.cells #[.int .i64 ag, .int .i64 af, .int .i64 az] 36) (.cells #[.int .i64 kd, .int .i64 at', .slice da n dc, .slice ca cn cc] 55) (.cells #[.pointer none, .pointer none, .int .i64 0, .int .i64 0, .slice none 0 0, .bool false, .bool false, .int .i64 0, .int .i64 0, .int .i64 0, .int .i64 0, .int .u64 0, .string ⟨#[]⟩, .slice none 0 0, .int .i64 0, .int .i64 0, .int .i64 0] 49)
  rw [← hW] at hWf
  have HX := Lib.hid hWf
  have HW := Lib.hid hW
  clear h hA hE hn hcn hW hWf hv hu hv1 hu1
  obtain ⟨hk1, hk2⟩ := hk
  go_enter Tryz.func12, Tryz.ntmps12
  go_wp2_with (first
    | (at_builtin; rw [← HW.out]; refine wpList_append_bytes _ rfl _ _ rfl W.heap.size _ [] dxs rfl (own_nil _ _) da n dc rfl HN.out HA.out.dn (HA.out.dat.on (below_step HP.out.bw HX.out.2.2.2.2)) (by have := HA.out.dl; simp only [List.length_nil, Nat.zero_add]; exact Nat.le_trans this (by omega)) (Nat.le_refl _) ?_
       intro v1 w1 hown hgrow
       have hb1 := below_grow (Below.refl _ W) (own_nil W W.heap.size) hgrow
       have hown' : Own w1 W.heap.size v1 dxs := hown
       obtain ⟨ma, mc, hma, hmi⟩ := mine_at hown'
       rw [HN.out] at hma
       subst hma
       have HM := Lib.hid (And.intro hown' hmi)
       have HS := Lib.hid (sb_start HP.out (below_step HX.out.2.2.2.2 hb1) ((hb1.block _ (blk_lt HX.out.1)).trans HX.out.1) ((hb1.block _ (blk_lt HX.out.2.1)).trans HX.out.2.1) ((hb1.block _ (blk_lt HX.out.2.2.1)).trans HX.out.2.2.1) ((hb1.block _ (blk_lt HX.out.2.2.2.1)).trans HX.out.2.2.2.1))
       have HlW : Hid (w.heap.size + 1 + 1 + 1 < W.heap.size) := blk_lt HX.out.2.2.2.1
       obtain ⟨e0, e1, e2, e3⟩ := act_cells HS.out.ac
       have c0 : w1.cell? ⟨w.heap.size, 0, none⟩ = some (.pointer (some ⟨p, 0, none⟩)) := cell_of HS.out.wd rfl
       have c1 : w1.cell? ⟨w.heap.size, 1, none⟩ = some (.pointer (some ⟨q, 0, none⟩)) := cell_of HS.out.wd rfl
       clear hown hgrow hb1 hown' hmi)
    | fail)
  clear HW HX
  have hk12 : J.a.s.toNat ≤ 12 := by rw [hja]; exact hs12

  refine (jflush_ HS.out.jn (by omega)).mono ?_
  rintro e U1 ⟨rfl, hjn⟩
  obtain ⟨rv1, ev1, hS1⟩ := HS.out.to hjn
  have HRf : Hid (Calls Tryz.prog 36 #[.agg #[u0, u1, u2, u3, u4, u5, u6, u7, u8], .agg #[v0, v1, v2, v3, v4, v5]] U1 (RjdTo U1 (fun k => Mine p aa bb q rv1 ev1 k ∨ (X k ∨ (w.heap.size ≤ k ∧ k < w1.heap.size))) (flushD d J) (flushJ d J) (flushE d J))) := by
    have q := rflush_ (w := U1) ⟨hS1.ls, HP.out.tie, HP.out.jn.dev.ok, HP.out.rs, HP.out.lf⟩ hS1.ed HOk.out HP.out.calm
    rw [HUu.out.1, HV.out.1] at q
    exact q
  have HLj := Lib.hid (load_wj hS1.wd)
  have HLr := Lib.hid (load_wr hS1.wd)
  have HS1 := Lib.hid hS1
  have HRg := Lib.hid (Rg.flush d J)
  have HCm := Lib.hid (flush_calm HP.out.calm HOk.out)
  have HJa : Hid (((flushJ d J)).a = (⟨ag, af, az⟩ : Ar)) := by show _ = _; rw [flush_a]; exact hja
  obtain ⟨f0, f1, f2, f3⟩ := act_cells hS1.ac
  obtain ⟨J9, hJ9⟩ : ∃ J9, J9 = (flushJ d J) := ⟨_, rfl⟩
  obtain ⟨d9, hd9⟩ : ∃ d9, d9 = (flushD d J) := ⟨_, rfl⟩
  obtain ⟨E, hE9⟩ : ∃ E, E = flushE d J := ⟨_, rfl⟩
  rw [← hE9] at HRf ⊢
  rw [← hJ9] at HRf HS1 HCm HJa
  rw [← hd9] at HRf HS1 HRg HCm
  obtain ⟨evv, hevv⟩ : ∃ evv, errV E = evv := ⟨_, rfl⟩
  rw [hevv]
  have HEV := Lib.hid hevv
  clear hjn hS1 HS c0 c1 e0 e1 e2 e3 hJ9 hd9 hE9 hevv HM
  go_wp2_with (first
    | (refine wpList_load_at rfl 43 _ rfl _ _ rfl HLj.out ?_)
    | (refine wpList_load_at rfl 33 _ rfl _ _ rfl HLr.out ?_)
    | fail)
  refine HRf.out.mono ?_
  rintro e U2 ⟨x', ra', rc', ea', ec', rfl, hL2, hT2, hEd2, hb2⟩
  obtain ⟨v0', v1', v2', v3', v4', v5', hv', hv1'⟩ := rd_ex x' ra' rc'
  obtain ⟨u0', u1', u2', u3', u4', u5', u6', u7', u8', hu', hu1', hu3'⟩ := rj_ex J9 ea' ec'
  clear hu3'
  rw [hv', hu']
  have hS2 := HS1.out.ref hb2 hL2 hEd2
  obtain ⟨U3, hs3, hp3⟩ := store_wj hS2.wd hu1'
  have hS3 := hS2.putw hp3
  obtain ⟨U4, hs4, hp4⟩ := store_wr hS3.wd hv1'
  have HSf := Lib.hid (hS3.putw hp4)
  have HSt3 := Lib.hid hs3
  have HSt4 := Lib.hid hs4
  have HAll := Lib.hid (wd_all (pv := .pointer (some ⟨p, 0, none⟩)) (qv := .pointer (some ⟨q, 0, none⟩)) hv1' hu1' rfl rfl)
  have HFin : Hid (∀ Y z, SB w0 w (fun k => X k ∨ (w.heap.size ≤ k ∧ k < w1.heap.size)) (Mine p aa bb q rv ev) Y p aa bb q d9 (K + J.a.s.toNat) J9 rv1 ev1 ra' rc' x'.l ea' ec' J9.ends #[.pointer (some ⟨p, 0, none⟩), .pointer (some ⟨q, 0, none⟩), v0', v1', v2', v3', v4', v5', u0', u1', u2', u3', u4', u5', u6', u7', u8'] #[.int .i64 ag, .int .i64 af, .int .i64 az] #[.int .i64 kd, .int .i64 at', .slice da n dc, .slice ca cn cc] z → StTo w0 w X (Mine p aa bb q rv ev) p aa bb K ⟨ag, af, az⟩ (.returned (.tuple #[.agg #[.pointer (some ⟨p, 0, none⟩), .pointer (some ⟨q, 0, none⟩), v0', v1', v2', v3', v4', v5', u0', u1', u2', u3', u4', u5', u6', u7', u8'], .bool true])) Y) := fun Y z hS => step_end hS (fun k hk => .inl hk) hT2 ⟨HRg.out.r.trans HP.out.rs.1, HRg.out.s.trans HP.out.rs.2⟩ (HRg.out.lf HP.out.lf) HJa.out (HRg.out.inn HP.out.inn) HCm.out hv' hu' (by omega) (by omega)
  clear hs3 hp3 hS2 hS3 hs4 hp4 hL2 hT2 hEd2 hb2 HS1 HRf HLj HLr HRg HCm HJa hv' hu' hv1' hu1' f0 f1 f2 f3
  go_wp2_with (first
    | (refine wpList_store_at rfl 43 _ _ rfl _ _ rfl rfl HSt3.out ?_)
    | (refine wpList_store_at rfl 33 _ _ rfl _ _ rfl rfl HSt4.out ?_)
    | fail)

  have GW : Hid (∀ V, Two (w.heap.size + 1 + 1 + 1) (w.heap.size + 1 + 1 + 1) U4 V → (Instr.loadAt 49 (.pointer (some ⟨w.heap.size, 0, none⟩))).run Tryz.prog V = .ok (.agg #[.pointer (some ⟨p, 0, none⟩), .pointer (some ⟨q, 0, none⟩), v0', v1', v2', v3', v4', v5', u0', u1', u2', u3', u4', u5', u6', u7', u8']) V) := fun V hV => load_wd (hV.at HSf.out.wd (by omega) (by omega)) rfl
  have HNm : Hid (∀ V, Below U4.heap.size U4 V → Calls Tryz.prog 9 #[evv] V fun e w' => e = .returned (.int .i64 (E : Nat)) ∧ Below V.heap.size V w') := fun V hV => by
    rw [← HEV.out]
    exact num_ E V (HE.out.on (below_step HSf.out.bw hV))
  refine wp_region_noPanic ?_
  refine wp_region_held_drew (S := fun V => Two (w.heap.size + 1 + 1 + 1) (w.heap.size + 1 + 1 + 1) U4 V) (by kernel_rfl) (Two.drew _ _ _) (fun hHeld => ?_)
  refine tk 0 (.agg #[.pointer (some ⟨p, 0, none⟩), .pointer (some ⟨q, 0, none⟩), v0', v1', v2', v3', v4', v5', u0', u1', u2', u3', u4', u5', u6', u7', u8']) (hy := (yields_load (by rfl) 49 _ (by rfl) _ _ (by rfl) (GW.out))) (h := ?_)
  refine tk 1 (evv) (h := ?_)
  refine tk 3 (.int .i64 (E : Nat)) (h := ?_)
  refine wpAnyH_ready (rs := [2]) (by kernel_rfl) (by simp) ?_
  refine AllReadyH.cons rfl (fun KK hK => ?_) AllReadyH.nil
  go_simp
  go_wp2_with (first | (go_at_call 9; refine (HNm.out _ (below_drew _)).mono ?_; rintro e Y2 ⟨rfl, hy2⟩))
  refine hK.out _ _ ?_ (fun hHeld2 => ?_)
  · exact Two.on (Two.drew _ _ _) hy2
  clear hK KK
  refine tk 4 (.bool true) (h := ?_)
  have hY2 := (HSf.out.on (below_drew _)).on hy2
  obtain ⟨Y3, hys, hyp⟩ := put_wd (cs := #[.pointer (some ⟨p, 0, none⟩), .pointer (some ⟨q, 0, none⟩), v0', v1', v2', v3', v4', v5', u0', u1', u2', u3', u4', u5', u6', u7', u8']) hY2.out rfl rfl HAll.out
  have hT3 : Two (w.heap.size + 1 + 1 + 1) (w.heap.size + 1 + 1 + 1) U4 Y3 := Two.put hHeld2 hyp (.inl rfl)
  have HEn := Lib.hid (And.intro hyp.blk (HFin.out Y3 _ (hY2.puto hyp)))
  clear hyp hY2 hy2 HSf HFin HNm GW
  refine ready_store 5 rfl (by kernel_rfl) (by rfl) 49 _ _ (by rfl) _ _ (by rfl) (by rfl) hys hT3 ?_
  refine tk 6 (.bool true) (h := ?_)
  refine wpAnyH_done (by kernel_rfl) ?_ _
  refine NoPanic.normal ?_
  go_wp2_with fail
  exact bodyPost_ret (results_wd rfl _ _ (w.heap.size + 1 + 1 + 1) _ (.bool true) rfl rfl HEn.out.1 rfl) rfl HEn.out.2
set_option maxRecDepth 100000 in
set_option maxHeartbeats 8000000 in
theorem step3_ {w0 w : World} {X : Nat → Prop} {p aa bb q : Nat} {d : Dev} {K : Nat} {J : Jr} {rv ev : Value} {x : RD} {ra : Option Addr} {rc : Nat} {ea : Option Addr} {ec : Nat} {a : Ar} {A : ActV} {v0 v1 v2 v3 v4 v5 u0 u1 u2 u3 u4 u5 u6 u7 u8 : Value} (h : Wd w0 w X p aa bb q d K J rv ev x ra rc ea ec a) (hA : AOk w0 A) (hE : ErrType w0) (hK : K + 24 ≤ 1000000) (hv : rdV x ra rc = .agg #[v0, v1, v2, v3, v4, v5]) (hv1 : (#[v0, v1, v2, v3, v4, v5] : Array Value).all (·.oneCell') = true) (hu : rjV J ea ec = .agg #[u0, u1, u2, u3, u4, u5, u6, u7, u8]) (hu1 : (#[u0, u1, u2, u3, u4, u5, u6, u7, u8] : Array Value).all (·.oneCell') = true) (hk : wrap64 ((IntKind.u64.wrap A.kind).tmod 7) = 3 ∧ IntKind.i64.wrap ((IntKind.u64.wrap A.kind).tmod 7) = 3) :
    Calls Tryz.prog 12 #[.agg #[.pointer (some ⟨p, 0, none⟩), .pointer (some ⟨q, 0, none⟩), v0, v1, v2, v3, v4, v5, u0, u1, u2, u3, u4, u5, u6, u7, u8], arV a, actV A] w (StTo w0 w X (Mine p aa bb q rv ev) p aa bb K a) := by
  obtain ⟨kd, at', da, dxs, dc, ca, cs, cc⟩ := A
  have HP := Lib.hid h
  have HA := Lib.hid hA
  have HE := Lib.hid hE
  have hs12 : a.s.toNat ≤ 12 := by have q1 := h.inn.2.2.2.2.1; rw [h.rs.2] at q1; omega
  have hja := h.ja
  have HOk := Lib.hid h.jn.jr.ok
  have HV := Lib.hid (And.intro hv hv1)
  have HUu := Lib.hid (And.intro hu hu1)
  obtain ⟨ag, af, az⟩ := a
  unfold actV arV
  dsimp only at hk hs12 ⊢
  generalize hn : dxs.length = n at *
  generalize hcn : cs.length = cn at *
  have HN := Lib.hid hn
  have HCN := Lib.hid hcn
  have HDL : Hid (n ≤ 140737488351232) := by
    have q : dxs.length ≤ 140737488351232 := HA.out.dl
    rw [hn] at q; exact q
  obtain ⟨W, hW⟩ : ∃ W, W = (((w.alloc (.cells #[.pointer (some ⟨p, 0, none⟩), .pointer (some ⟨q, 0, none⟩), v0, v1, v2, v3, v4, v5, u0, u1, u2, u3, u4, u5, u6, u7, u8] 49)).alloc (.cells #[.int .i64 ag, .int .i64 af, .int .i64 az] 36)).alloc (.cells #[.int .i64 kd, .int .i64 at', .slice da n dc, .slice ca cn cc] 55)).alloc (.cells #[.pointer none, .pointer none, .int .i64 0, .int .i64 0, .slice none 0 0, .bool false, .bool false, .int .i64 0, .int .i64 0, .int .i64 0, .int .i64 0, .int .u64 0, .string ⟨#[]⟩, .slice none 0 0, .int .i64 0, .int .i64 0, .int .i64 0] 49) := ⟨_, rfl⟩
  have hWf := four_at w (.cells #[.pointer (some ⟨p, 0, none⟩), .pointer (some ⟨q, 0, none⟩), v0, v1, v2, v3, v4, v5, u0, u1, u2, u3, u4, u5, u6, u7, u8] 49) (.cells #[.int .i64 ag, .int .i64 af, .int .i64 az] 36) (.cells #[.int .i64 kd, .int .i64 at', .slice da n dc, .slice ca cn cc] 55) (.cells #[.pointer none, .pointer none, .int .i64 0, .int .i64 0, .slice none 0 0, .bool false, .bool false, .int .i64 0, .int .i64 0, .int .i64 0, .int .i64 0, .int .u64 0, .string ⟨#[]⟩, .slice none 0 0, .int .i64 0, .int .i64 0, .int .i64 0] 49)
  rw [← hW] at hWf
  have HX := Lib.hid hWf
  have HW := Lib.hid hW
  clear h hA hE hn hcn hW hWf hv hu hv1 hu1
  obtain ⟨hk1, hk2⟩ := hk
  obtain ⟨epn, hepn, hepn2⟩ : ∃ epn : Nat, IntKind.u64.wrap at' = (epn : Int) ∧ epn < 18446744073709551616 := by
    refine ⟨(at' % 18446744073709551616).toNat, ?_, by omega⟩
    rw [IntKind.wrap_u64]; omega
  go_enter Tryz.func12, Tryz.ntmps12
  go_wp2_with (first
    | (at_builtin; rw [← HW.out]; refine wpList_append_bytes _ rfl _ _ rfl W.heap.size _ [] dxs rfl (own_nil _ _) da n dc rfl HN.out HA.out.dn (HA.out.dat.on (below_step HP.out.bw HX.out.2.2.2.2)) (by have := HA.out.dl; simp only [List.length_nil, Nat.zero_add]; exact Nat.le_trans this (by omega)) (Nat.le_refl _) ?_
       intro v1 w1 hown hgrow
       have hb1 := below_grow (Below.refl _ W) (own_nil W W.heap.size) hgrow
       have hown' : Own w1 W.heap.size v1 dxs := hown
       obtain ⟨ma, mc, hma, hmi⟩ := mine_at hown'
       rw [HN.out] at hma
       subst hma
       have HM := Lib.hid (And.intro hown' hmi)
       have HS := Lib.hid (sb_start HP.out (below_step HX.out.2.2.2.2 hb1) ((hb1.block _ (blk_lt HX.out.1)).trans HX.out.1) ((hb1.block _ (blk_lt HX.out.2.1)).trans HX.out.2.1) ((hb1.block _ (blk_lt HX.out.2.2.1)).trans HX.out.2.2.1) ((hb1.block _ (blk_lt HX.out.2.2.2.1)).trans HX.out.2.2.2.1))
       have HlW : Hid (w.heap.size + 1 + 1 + 1 < W.heap.size) := blk_lt HX.out.2.2.2.1
       obtain ⟨e0, e1, e2, e3⟩ := act_cells HS.out.ac
       have c0 : w1.cell? ⟨w.heap.size, 0, none⟩ = some (.pointer (some ⟨p, 0, none⟩)) := cell_of HS.out.wd rfl
       have c1 : w1.cell? ⟨w.heap.size, 1, none⟩ = some (.pointer (some ⟨q, 0, none⟩)) := cell_of HS.out.wd rfl
       clear hown hgrow hb1 hown' hmi)
    | fail)
  clear HW HX
  have hk12 : J.a.s.toNat ≤ 12 := by rw [hja]; exact hs12

  refine (jrewind_ HS.out.jn (by omega) epn hepn2 (fun q => (HP.out.calm q).cr) (by rw [hja]; exact HP.out.inn)).mono ?_
  rintro e U1 ⟨rfl, hjn⟩
  obtain ⟨rv1, ev1, hS1⟩ := HS.out.to hjn
  have HRf : Hid (Calls Tryz.prog 37 #[.agg #[u0, u1, u2, u3, u4, u5, u6, u7, u8], .agg #[v0, v1, v2, v3, v4, v5], .int .u64 (epn : Nat)] U1 (RjdTo U1 (fun k => Mine p aa bb q rv1 ev1 k ∨ (X k ∨ (w.heap.size ≤ k ∧ k < w1.heap.size))) (rewD d J) (rewJ d J epn) (rewE d J))) := by
    have q := rrewind_ (w := U1) ⟨hS1.ls, HP.out.tie, HP.out.jn.dev.ok, HP.out.rs, HP.out.lf⟩ hS1.ed HP.out.calm epn
    rw [HUu.out.1, HV.out.1] at q
    exact q
  have HLj := Lib.hid (load_wj hS1.wd)
  have HLr := Lib.hid (load_wr hS1.wd)
  have HS1 := Lib.hid hS1
  have HRg := Lib.hid (Rg.rew d J)
  have HCm := Lib.hid (rew_calm HP.out.calm epn)
  have HJa : Hid (((rewJ d J epn)).a = (⟨ag, af, az⟩ : Ar)) := by show _ = _; rw [rew_a]; exact hja
  obtain ⟨f0, f1, f2, f3⟩ := act_cells hS1.ac
  obtain ⟨J9, hJ9⟩ : ∃ J9, J9 = (rewJ d J epn) := ⟨_, rfl⟩
  obtain ⟨d9, hd9⟩ : ∃ d9, d9 = (rewD d J) := ⟨_, rfl⟩
  obtain ⟨E, hE9⟩ : ∃ E, E = rewE d J := ⟨_, rfl⟩
  rw [← hE9] at HRf ⊢
  rw [← hJ9] at HRf HS1 HCm HJa
  rw [← hd9] at HRf HS1 HRg HCm
  obtain ⟨evv, hevv⟩ : ∃ evv, errV E = evv := ⟨_, rfl⟩
  rw [hevv]
  have HEV := Lib.hid hevv
  clear hjn hS1 HS c0 c1 e0 e1 e2 e3 hJ9 hd9 hE9 hevv HM
  go_wp2_with (first
    | (refine wpList_load_at rfl 43 _ rfl _ _ rfl HLj.out ?_)
    | (refine wpList_load_at rfl 33 _ rfl _ _ rfl HLr.out ?_)
    | fail)
  refine HRf.out.mono ?_
  rintro e U2 ⟨x', ra', rc', ea', ec', rfl, hL2, hT2, hEd2, hb2⟩
  obtain ⟨v0', v1', v2', v3', v4', v5', hv', hv1'⟩ := rd_ex x' ra' rc'
  obtain ⟨u0', u1', u2', u3', u4', u5', u6', u7', u8', hu', hu1', hu3'⟩ := rj_ex J9 ea' ec'
  clear hu3'
  rw [hv', hu']
  have hS2 := HS1.out.ref hb2 hL2 hEd2
  obtain ⟨U3, hs3, hp3⟩ := store_wj hS2.wd hu1'
  have hS3 := hS2.putw hp3
  obtain ⟨U4, hs4, hp4⟩ := store_wr hS3.wd hv1'
  have HSf := Lib.hid (hS3.putw hp4)
  have HSt3 := Lib.hid hs3
  have HSt4 := Lib.hid hs4
  have HAll := Lib.hid (wd_all (pv := .pointer (some ⟨p, 0, none⟩)) (qv := .pointer (some ⟨q, 0, none⟩)) hv1' hu1' rfl rfl)
  have HFin : Hid (∀ Y z, SB w0 w (fun k => X k ∨ (w.heap.size ≤ k ∧ k < w1.heap.size)) (Mine p aa bb q rv ev) Y p aa bb q d9 (K + J.a.s.toNat) J9 rv1 ev1 ra' rc' x'.l ea' ec' J9.ends #[.pointer (some ⟨p, 0, none⟩), .pointer (some ⟨q, 0, none⟩), v0', v1', v2', v3', v4', v5', u0', u1', u2', u3', u4', u5', u6', u7', u8'] #[.int .i64 ag, .int .i64 af, .int .i64 az] #[.int .i64 kd, .int .i64 at', .slice da n dc, .slice ca cn cc] z → StTo w0 w X (Mine p aa bb q rv ev) p aa bb K ⟨ag, af, az⟩ (.returned (.tuple #[.agg #[.pointer (some ⟨p, 0, none⟩), .pointer (some ⟨q, 0, none⟩), v0', v1', v2', v3', v4', v5', u0', u1', u2', u3', u4', u5', u6', u7', u8'], .bool true])) Y) := fun Y z hS => step_end hS (fun k hk => .inl hk) hT2 ⟨HRg.out.r.trans HP.out.rs.1, HRg.out.s.trans HP.out.rs.2⟩ (HRg.out.lf HP.out.lf) HJa.out (HRg.out.inn HP.out.inn) HCm.out hv' hu' (by omega) (by omega)
  clear hs3 hp3 hS2 hS3 hs4 hp4 hL2 hT2 hEd2 hb2 HS1 HRf HLj HLr HRg HCm HJa hv' hu' hv1' hu1' f0 f1 f2 f3
  go_wp2_with (first
    | (refine wpList_store_at rfl 43 _ _ rfl _ _ rfl rfl HSt3.out ?_)
    | (refine wpList_store_at rfl 33 _ _ rfl _ _ rfl rfl HSt4.out ?_)
    | fail)

  have GW : Hid (∀ V, Two (w.heap.size + 1 + 1 + 1) (w.heap.size + 1 + 1 + 1) U4 V → (Instr.loadAt 49 (.pointer (some ⟨w.heap.size, 0, none⟩))).run Tryz.prog V = .ok (.agg #[.pointer (some ⟨p, 0, none⟩), .pointer (some ⟨q, 0, none⟩), v0', v1', v2', v3', v4', v5', u0', u1', u2', u3', u4', u5', u6', u7', u8']) V) := fun V hV => load_wd (hV.at HSf.out.wd (by omega) (by omega)) rfl
  have HNm : Hid (∀ V, Below U4.heap.size U4 V → Calls Tryz.prog 9 #[evv] V fun e w' => e = .returned (.int .i64 (E : Nat)) ∧ Below V.heap.size V w') := fun V hV => by
    rw [← HEV.out]
    exact num_ E V (HE.out.on (below_step HSf.out.bw hV))
  refine wp_region_noPanic ?_
  refine wp_region_held_drew (S := fun V => Two (w.heap.size + 1 + 1 + 1) (w.heap.size + 1 + 1 + 1) U4 V) (by kernel_rfl) (Two.drew _ _ _) (fun hHeld => ?_)
  refine tk 0 (.agg #[.pointer (some ⟨p, 0, none⟩), .pointer (some ⟨q, 0, none⟩), v0', v1', v2', v3', v4', v5', u0', u1', u2', u3', u4', u5', u6', u7', u8']) (hy := (yields_load (by rfl) 49 _ (by rfl) _ _ (by rfl) (GW.out))) (h := ?_)
  refine tk 1 (evv) (h := ?_)
  refine tk 3 (.int .i64 (E : Nat)) (h := ?_)
  refine wpAnyH_ready (rs := [2]) (by kernel_rfl) (by simp) ?_
  refine AllReadyH.cons rfl (fun KK hK => ?_) AllReadyH.nil
  go_simp
  go_wp2_with (first | (go_at_call 9; refine (HNm.out _ (below_drew _)).mono ?_; rintro e Y2 ⟨rfl, hy2⟩))
  refine hK.out _ _ ?_ (fun hHeld2 => ?_)
  · exact Two.on (Two.drew _ _ _) hy2
  clear hK KK
  refine tk 4 (.bool true) (h := ?_)
  have hY2 := (HSf.out.on (below_drew _)).on hy2
  obtain ⟨Y3, hys, hyp⟩ := put_wd (cs := #[.pointer (some ⟨p, 0, none⟩), .pointer (some ⟨q, 0, none⟩), v0', v1', v2', v3', v4', v5', u0', u1', u2', u3', u4', u5', u6', u7', u8']) hY2.out rfl rfl HAll.out
  have hT3 : Two (w.heap.size + 1 + 1 + 1) (w.heap.size + 1 + 1 + 1) U4 Y3 := Two.put hHeld2 hyp (.inl rfl)
  have HEn := Lib.hid (And.intro hyp.blk (HFin.out Y3 _ (hY2.puto hyp)))
  clear hyp hY2 hy2 HSf HFin HNm GW
  refine ready_store 5 rfl (by kernel_rfl) (by rfl) 49 _ _ (by rfl) _ _ (by rfl) (by rfl) hys hT3 ?_
  refine tk 6 (.bool true) (h := ?_)
  refine wpAnyH_done (by kernel_rfl) ?_ _
  refine NoPanic.normal ?_
  go_wp2_with fail
  exact bodyPost_ret (results_wd rfl _ _ (w.heap.size + 1 + 1 + 1) _ (.bool true) rfl rfl HEn.out.1 rfl) rfl HEn.out.2
set_option maxRecDepth 100000 in
set_option maxHeartbeats 8000000 in
theorem step6_ {w0 w : World} {X : Nat → Prop} {p aa bb q : Nat} {d : Dev} {K : Nat} {J : Jr} {rv ev : Value} {x : RD} {ra : Option Addr} {rc : Nat} {ea : Option Addr} {ec : Nat} {a : Ar} {A : ActV} {v0 v1 v2 v3 v4 v5 u0 u1 u2 u3 u4 u5 u6 u7 u8 : Value} (h : Wd w0 w X p aa bb q d K J rv ev x ra rc ea ec a) (hA : AOk w0 A) (hE : ErrType w0) (hK : K + 24 ≤ 1000000) (hv : rdV x ra rc = .agg #[v0, v1, v2, v3, v4, v5]) (hv1 : (#[v0, v1, v2, v3, v4, v5] : Array Value).all (·.oneCell') = true) (hu : rjV J ea ec = .agg #[u0, u1, u2, u3, u4, u5, u6, u7, u8]) (hu1 : (#[u0, u1, u2, u3, u4, u5, u6, u7, u8] : Array Value).all (·.oneCell') = true) (hk : wrap64 ((IntKind.u64.wrap A.kind).tmod 7) = 6 ∧ IntKind.i64.wrap ((IntKind.u64.wrap A.kind).tmod 7) = 6) :
    Calls Tryz.prog 12 #[.agg #[.pointer (some ⟨p, 0, none⟩), .pointer (some ⟨q, 0, none⟩), v0, v1, v2, v3, v4, v5, u0, u1, u2, u3, u4, u5, u6, u7, u8], arV a, actV A] w (StTo w0 w X (Mine p aa bb q rv ev) p aa bb K a) := by
  obtain ⟨kd, at', da, dxs, dc, ca, cs, cc⟩ := A
  have HP := Lib.hid h
  have HA := Lib.hid hA
  have HE := Lib.hid hE
  have hs12 : a.s.toNat ≤ 12 := by have q1 := h.inn.2.2.2.2.1; rw [h.rs.2] at q1; omega
  have hja := h.ja
  have HOk := Lib.hid h.jn.jr.ok
  have HV := Lib.hid (And.intro hv hv1)
  have HUu := Lib.hid (And.intro hu hu1)
  obtain ⟨ag, af, az⟩ := a
  unfold actV arV
  dsimp only at hk hs12 ⊢
  generalize hn : dxs.length = n at *
  generalize hcn : cs.length = cn at *
  have HN := Lib.hid hn
  have HCN := Lib.hid hcn
  have HDL : Hid (n ≤ 140737488351232) := by
    have q : dxs.length ≤ 140737488351232 := HA.out.dl
    rw [hn] at q; exact q
  obtain ⟨W, hW⟩ : ∃ W, W = (((w.alloc (.cells #[.pointer (some ⟨p, 0, none⟩), .pointer (some ⟨q, 0, none⟩), v0, v1, v2, v3, v4, v5, u0, u1, u2, u3, u4, u5, u6, u7, u8] 49)).alloc (.cells #[.int .i64 ag, .int .i64 af, .int .i64 az] 36)).alloc (.cells #[.int .i64 kd, .int .i64 at', .slice da n dc, .slice ca cn cc] 55)).alloc (.cells #[.pointer none, .pointer none, .int .i64 0, .int .i64 0, .slice none 0 0, .bool false, .bool false, .int .i64 0, .int .i64 0, .int .i64 0, .int .i64 0, .int .u64 0, .string ⟨#[]⟩, .slice none 0 0, .int .i64 0, .int .i64 0, .int .i64 0] 49) := ⟨_, rfl⟩
  have hWf := four_at w (.cells #[.pointer (some ⟨p, 0, none⟩), .pointer (some ⟨q, 0, none⟩), v0, v1, v2, v3, v4, v5, u0, u1, u2, u3, u4, u5, u6, u7, u8] 49) (.cells #[.int .i64 ag, .int .i64 af, .int .i64 az] 36) (.cells #[.int .i64 kd, .int .i64 at', .slice da n dc, .slice ca cn cc] 55) (.cells #[.pointer none, .pointer none, .int .i64 0, .int .i64 0, .slice none 0 0, .bool false, .bool false, .int .i64 0, .int .i64 0, .int .i64 0, .int .i64 0, .int .u64 0, .string ⟨#[]⟩, .slice none 0 0, .int .i64 0, .int .i64 0, .int .i64 0] 49)
  rw [← hW] at hWf
  have HX := Lib.hid hWf
  have HW := Lib.hid hW
  clear h hA hE hn hcn hW hWf hv hu hv1 hu1
  obtain ⟨hk1, hk2⟩ := hk
  go_enter Tryz.func12, Tryz.ntmps12
  go_wp2_with (first
    | (at_builtin; rw [← HW.out]; refine wpList_append_bytes _ rfl _ _ rfl W.heap.size _ [] dxs rfl (own_nil _ _) da n dc rfl HN.out HA.out.dn (HA.out.dat.on (below_step HP.out.bw HX.out.2.2.2.2)) (by have := HA.out.dl; simp only [List.length_nil, Nat.zero_add]; exact Nat.le_trans this (by omega)) (Nat.le_refl _) ?_
       intro v1 w1 hown hgrow
       have hb1 := below_grow (Below.refl _ W) (own_nil W W.heap.size) hgrow
       have hown' : Own w1 W.heap.size v1 dxs := hown
       obtain ⟨ma, mc, hma, hmi⟩ := mine_at hown'
       rw [HN.out] at hma
       subst hma
       have HM := Lib.hid (And.intro hown' hmi)
       have HS := Lib.hid (sb_start HP.out (below_step HX.out.2.2.2.2 hb1) ((hb1.block _ (blk_lt HX.out.1)).trans HX.out.1) ((hb1.block _ (blk_lt HX.out.2.1)).trans HX.out.2.1) ((hb1.block _ (blk_lt HX.out.2.2.1)).trans HX.out.2.2.1) ((hb1.block _ (blk_lt HX.out.2.2.2.1)).trans HX.out.2.2.2.1))
       have HlW : Hid (w.heap.size + 1 + 1 + 1 < W.heap.size) := blk_lt HX.out.2.2.2.1
       obtain ⟨e0, e1, e2, e3⟩ := act_cells HS.out.ac
       have c0 : w1.cell? ⟨w.heap.size, 0, none⟩ = some (.pointer (some ⟨p, 0, none⟩)) := cell_of HS.out.wd rfl
       have c1 : w1.cell? ⟨w.heap.size, 1, none⟩ = some (.pointer (some ⟨q, 0, none⟩)) := cell_of HS.out.wd rfl
       clear hown hgrow hb1 hown' hmi)
    | fail)
  clear HW HX
  have hk12 : J.a.s.toNat ≤ 12 := by rw [hja]; exact hs12

  refine (jcut_ HS.out.jn (by omega) at' (fun q => (HP.out.calm q).cr) (by rw [hja]; exact HP.out.inn)).mono ?_
  rintro e U1 ⟨rfl, hjn⟩
  obtain ⟨rv1, ev1, hS1⟩ := HS.out.to hjn
  have HRf : Hid (Calls Tryz.prog 38 #[.agg #[u0, u1, u2, u3, u4, u5, u6, u7, u8], .agg #[v0, v1, v2, v3, v4, v5], .int .i64 at'] U1 (RjdTo U1 (fun k => Mine p aa bb q rv1 ev1 k ∨ (X k ∨ (w.heap.size ≤ k ∧ k < w1.heap.size))) (cutD d J at') (cutJ d J at') (cutE d J at'))) := by
    have q := rcut_ (w := U1) ⟨hS1.ls, HP.out.tie, HP.out.jn.dev.ok, HP.out.rs, HP.out.lf⟩ hS1.ed HOk.out HP.out.calm at'
    rw [HUu.out.1, HV.out.1] at q
    exact q
  have HLj := Lib.hid (load_wj hS1.wd)
  have HLr := Lib.hid (load_wr hS1.wd)
  have HS1 := Lib.hid hS1
  have HRg := Lib.hid (Rg.cut d J at')
  have HCm := Lib.hid (cut_calm HP.out.calm HOk.out at')
  have HJa : Hid (((cutJ d J at')).a = (⟨ag, af, az⟩ : Ar)) := by show _ = _; rw [cut_a]; exact hja
  obtain ⟨f0, f1, f2, f3⟩ := act_cells hS1.ac
  obtain ⟨J9, hJ9⟩ : ∃ J9, J9 = (cutJ d J at') := ⟨_, rfl⟩
  obtain ⟨d9, hd9⟩ : ∃ d9, d9 = (cutD d J at') := ⟨_, rfl⟩
  obtain ⟨E, hE9⟩ : ∃ E, E = cutE d J at' := ⟨_, rfl⟩
  rw [← hE9] at HRf ⊢
  rw [← hJ9] at HRf HS1 HCm HJa
  rw [← hd9] at HRf HS1 HRg HCm
  obtain ⟨evv, hevv⟩ : ∃ evv, errV E = evv := ⟨_, rfl⟩
  rw [hevv]
  have HEV := Lib.hid hevv
  clear hjn hS1 HS c0 c1 e0 e1 e2 e3 hJ9 hd9 hE9 hevv HM
  go_wp2_with (first
    | (refine wpList_load_at rfl 43 _ rfl _ _ rfl HLj.out ?_)
    | (refine wpList_load_at rfl 33 _ rfl _ _ rfl HLr.out ?_)
    | fail)
  refine HRf.out.mono ?_
  rintro e U2 ⟨x', ra', rc', ea', ec', rfl, hL2, hT2, hEd2, hb2⟩
  obtain ⟨v0', v1', v2', v3', v4', v5', hv', hv1'⟩ := rd_ex x' ra' rc'
  obtain ⟨u0', u1', u2', u3', u4', u5', u6', u7', u8', hu', hu1', hu3'⟩ := rj_ex J9 ea' ec'
  clear hu3'
  rw [hv', hu']
  have hS2 := HS1.out.ref hb2 hL2 hEd2
  obtain ⟨U3, hs3, hp3⟩ := store_wj hS2.wd hu1'
  have hS3 := hS2.putw hp3
  obtain ⟨U4, hs4, hp4⟩ := store_wr hS3.wd hv1'
  have HSf := Lib.hid (hS3.putw hp4)
  have HSt3 := Lib.hid hs3
  have HSt4 := Lib.hid hs4
  have HAll := Lib.hid (wd_all (pv := .pointer (some ⟨p, 0, none⟩)) (qv := .pointer (some ⟨q, 0, none⟩)) hv1' hu1' rfl rfl)
  have HFin : Hid (∀ Y z, SB w0 w (fun k => X k ∨ (w.heap.size ≤ k ∧ k < w1.heap.size)) (Mine p aa bb q rv ev) Y p aa bb q d9 (K + J.a.s.toNat) J9 rv1 ev1 ra' rc' x'.l ea' ec' J9.ends #[.pointer (some ⟨p, 0, none⟩), .pointer (some ⟨q, 0, none⟩), v0', v1', v2', v3', v4', v5', u0', u1', u2', u3', u4', u5', u6', u7', u8'] #[.int .i64 ag, .int .i64 af, .int .i64 az] #[.int .i64 kd, .int .i64 at', .slice da n dc, .slice ca cn cc] z → StTo w0 w X (Mine p aa bb q rv ev) p aa bb K ⟨ag, af, az⟩ (.returned (.tuple #[.agg #[.pointer (some ⟨p, 0, none⟩), .pointer (some ⟨q, 0, none⟩), v0', v1', v2', v3', v4', v5', u0', u1', u2', u3', u4', u5', u6', u7', u8'], .bool true])) Y) := fun Y z hS => step_end hS (fun k hk => .inl hk) hT2 ⟨HRg.out.r.trans HP.out.rs.1, HRg.out.s.trans HP.out.rs.2⟩ (HRg.out.lf HP.out.lf) HJa.out (HRg.out.inn HP.out.inn) HCm.out hv' hu' (by omega) (by omega)
  clear hs3 hp3 hS2 hS3 hs4 hp4 hL2 hT2 hEd2 hb2 HS1 HRf HLj HLr HRg HCm HJa hv' hu' hv1' hu1' f0 f1 f2 f3
  go_wp2_with (first
    | (refine wpList_store_at rfl 43 _ _ rfl _ _ rfl rfl HSt3.out ?_)
    | (refine wpList_store_at rfl 33 _ _ rfl _ _ rfl rfl HSt4.out ?_)
    | fail)

  have GW : Hid (∀ V, Two (w.heap.size + 1 + 1 + 1) (w.heap.size + 1 + 1 + 1) U4 V → (Instr.loadAt 49 (.pointer (some ⟨w.heap.size, 0, none⟩))).run Tryz.prog V = .ok (.agg #[.pointer (some ⟨p, 0, none⟩), .pointer (some ⟨q, 0, none⟩), v0', v1', v2', v3', v4', v5', u0', u1', u2', u3', u4', u5', u6', u7', u8']) V) := fun V hV => load_wd (hV.at HSf.out.wd (by omega) (by omega)) rfl
  have HNm : Hid (∀ V, Below U4.heap.size U4 V → Calls Tryz.prog 9 #[evv] V fun e w' => e = .returned (.int .i64 (E : Nat)) ∧ Below V.heap.size V w') := fun V hV => by
    rw [← HEV.out]
    exact num_ E V (HE.out.on (below_step HSf.out.bw hV))
  refine wp_region_noPanic ?_
  refine wp_region_held_drew (S := fun V => Two (w.heap.size + 1 + 1 + 1) (w.heap.size + 1 + 1 + 1) U4 V) (by kernel_rfl) (Two.drew _ _ _) (fun hHeld => ?_)
  refine tk 0 (.agg #[.pointer (some ⟨p, 0, none⟩), .pointer (some ⟨q, 0, none⟩), v0', v1', v2', v3', v4', v5', u0', u1', u2', u3', u4', u5', u6', u7', u8']) (hy := (yields_load (by rfl) 49 _ (by rfl) _ _ (by rfl) (GW.out))) (h := ?_)
  refine tk 1 (evv) (h := ?_)
  refine tk 3 (.int .i64 (E : Nat)) (h := ?_)
  refine wpAnyH_ready (rs := [2]) (by kernel_rfl) (by simp) ?_
  refine AllReadyH.cons rfl (fun KK hK => ?_) AllReadyH.nil
  go_simp
  go_wp2_with (first | (go_at_call 9; refine (HNm.out _ (below_drew _)).mono ?_; rintro e Y2 ⟨rfl, hy2⟩))
  refine hK.out _ _ ?_ (fun hHeld2 => ?_)
  · exact Two.on (Two.drew _ _ _) hy2
  clear hK KK
  refine tk 4 (.bool true) (h := ?_)
  have hY2 := (HSf.out.on (below_drew _)).on hy2
  obtain ⟨Y3, hys, hyp⟩ := put_wd (cs := #[.pointer (some ⟨p, 0, none⟩), .pointer (some ⟨q, 0, none⟩), v0', v1', v2', v3', v4', v5', u0', u1', u2', u3', u4', u5', u6', u7', u8']) hY2.out rfl rfl HAll.out
  have hT3 : Two (w.heap.size + 1 + 1 + 1) (w.heap.size + 1 + 1 + 1) U4 Y3 := Two.put hHeld2 hyp (.inl rfl)
  have HEn := Lib.hid (And.intro hyp.blk (HFin.out Y3 _ (hY2.puto hyp)))
  clear hyp hY2 hy2 HSf HFin HNm GW
  refine ready_store 5 rfl (by kernel_rfl) (by rfl) 49 _ _ (by rfl) _ _ (by rfl) (by rfl) hys hT3 ?_
  refine tk 6 (.bool true) (h := ?_)
  refine wpAnyH_done (by kernel_rfl) ?_ _
  refine NoPanic.normal ?_
  go_wp2_with fail
  exact bodyPost_ret (results_wd rfl _ _ (w.heap.size + 1 + 1 + 1) _ (.bool true) rfl rfl HEn.out.1 rfl) rfl HEn.out.2
set_option maxRecDepth 100000 in
set_option maxHeartbeats 8000000 in
theorem step4a_ {w0 w : World} {X : Nat → Prop} {p aa bb q : Nat} {d : Dev} {K : Nat} {J : Jr} {rv ev : Value} {x : RD} {ra : Option Addr} {rc : Nat} {ea : Option Addr} {ec : Nat} {a : Ar} {A : ActV} {v0 v1 v2 v3 v4 v5 u0 u1 u2 u3 u4 u5 u6 u7 u8 : Value} (h : Wd w0 w X p aa bb q d K J rv ev x ra rc ea ec a) (hA : AOk w0 A) (hE : ErrType w0) (hK : K + 24 ≤ 1000000) (hv : rdV x ra rc = .agg #[v0, v1, v2, v3, v4, v5]) (hv1 : (#[v0, v1, v2, v3, v4, v5] : Array Value).all (·.oneCell') = true) (hu : rjV J ea ec = .agg #[u0, u1, u2, u3, u4, u5, u6, u7, u8]) (hu1 : (#[u0, u1, u2, u3, u4, u5, u6, u7, u8] : Array Value).all (·.oneCell') = true) (hk : wrap64 ((IntKind.u64.wrap A.kind).tmod 7) = 4 ∧ IntKind.i64.wrap ((IntKind.u64.wrap A.kind).tmod 7) = 4) (hat : A.at' < 0) :
    Calls Tryz.prog 12 #[.agg #[.pointer (some ⟨p, 0, none⟩), .pointer (some ⟨q, 0, none⟩), v0, v1, v2, v3, v4, v5, u0, u1, u2, u3, u4, u5, u6, u7, u8], arV a, actV A] w (StTo w0 w X (Mine p aa bb q rv ev) p aa bb K a) := by
  obtain ⟨kd, at', da, dxs, dc, ca, cs, cc⟩ := A
  have HP := Lib.hid h
  have HA := Lib.hid hA
  have HE := Lib.hid hE
  have hs12 : a.s.toNat ≤ 12 := by have q1 := h.inn.2.2.2.2.1; rw [h.rs.2] at q1; omega
  have hja := h.ja
  have HOk := Lib.hid h.jn.jr.ok
  have HV := Lib.hid (And.intro hv hv1)
  have HUu := Lib.hid (And.intro hu hu1)
  obtain ⟨ag, af, az⟩ := a
  unfold actV arV
  dsimp only at hk hs12 ⊢ hat
  generalize hn : dxs.length = n at *
  generalize hcn : cs.length = cn at *
  have HN := Lib.hid hn
  have HCN := Lib.hid hcn
  have HDL : Hid (n ≤ 140737488351232) := by
    have q : dxs.length ≤ 140737488351232 := HA.out.dl
    rw [hn] at q; exact q
  obtain ⟨W, hW⟩ : ∃ W, W = (((w.alloc (.cells #[.pointer (some ⟨p, 0, none⟩), .pointer (some ⟨q, 0, none⟩), v0, v1, v2, v3, v4, v5, u0, u1, u2, u3, u4, u5, u6, u7, u8] 49)).alloc (.cells #[.int .i64 ag, .int .i64 af, .int .i64 az] 36)).alloc (.cells #[.int .i64 kd, .int .i64 at', .slice da n dc, .slice ca cn cc] 55)).alloc (.cells #[.pointer none, .pointer none, .int .i64 0, .int .i64 0, .slice none 0 0, .bool false, .bool false, .int .i64 0, .int .i64 0, .int .i64 0, .int .i64 0, .int .u64 0, .string ⟨#[]⟩, .slice none 0 0, .int .i64 0, .int .i64 0, .int .i64 0] 49) := ⟨_, rfl⟩
  have hWf := four_at w (.cells #[.pointer (some ⟨p, 0, none⟩), .pointer (some ⟨q, 0, none⟩), v0, v1, v2, v3, v4, v5, u0, u1, u2, u3, u4, u5, u6, u7, u8] 49) (.cells #[.int .i64 ag, .int .i64 af, .int .i64 az] 36) (.cells #[.int .i64 kd, .int .i64 at', .slice da n dc, .slice ca cn cc] 55) (.cells #[.pointer none, .pointer none, .int .i64 0, .int .i64 0, .slice none 0 0, .bool false, .bool false, .int .i64 0, .int .i64 0, .int .i64 0, .int .i64 0, .int .u64 0, .string ⟨#[]⟩, .slice none 0 0, .int .i64 0, .int .i64 0, .int .i64 0] 49)
  rw [← hW] at hWf
  have HX := Lib.hid hWf
  have HW := Lib.hid hW
  clear h hA hE hn hcn hW hWf hv hu hv1 hu1
  obtain ⟨hk1, hk2⟩ := hk
  go_enter Tryz.func12, Tryz.ntmps12
  go_wp2_with (first
    | (at_builtin; rw [← HW.out]; refine wpList_append_bytes _ rfl _ _ rfl W.heap.size _ [] dxs rfl (own_nil _ _) da n dc rfl HN.out HA.out.dn (HA.out.dat.on (below_step HP.out.bw HX.out.2.2.2.2)) (by have := HA.out.dl; simp only [List.length_nil, Nat.zero_add]; exact Nat.le_trans this (by omega)) (Nat.le_refl _) ?_
       intro v1 w1 hown hgrow
       have hb1 := below_grow (Below.refl _ W) (own_nil W W.heap.size) hgrow
       have hown' : Own w1 W.heap.size v1 dxs := hown
       obtain ⟨ma, mc, hma, hmi⟩ := mine_at hown'
       rw [HN.out] at hma
       subst hma
       have HM := Lib.hid (And.intro hown' hmi)
       have HS := Lib.hid (sb_start HP.out (below_step HX.out.2.2.2.2 hb1) ((hb1.block _ (blk_lt HX.out.1)).trans HX.out.1) ((hb1.block _ (blk_lt HX.out.2.1)).trans HX.out.2.1) ((hb1.block _ (blk_lt HX.out.2.2.1)).trans HX.out.2.2.1) ((hb1.block _ (blk_lt HX.out.2.2.2.1)).trans HX.out.2.2.2.1))
       have HlW : Hid (w.heap.size + 1 + 1 + 1 < W.heap.size) := blk_lt HX.out.2.2.2.1
       obtain ⟨e0, e1, e2, e3⟩ := act_cells HS.out.ac
       have c0 : w1.cell? ⟨w.heap.size, 0, none⟩ = some (.pointer (some ⟨p, 0, none⟩)) := cell_of HS.out.wd rfl
       have c1 : w1.cell? ⟨w.heap.size, 1, none⟩ = some (.pointer (some ⟨q, 0, none⟩)) := cell_of HS.out.wd rfl
       clear hown hgrow hb1 hown' hmi)
    | fail)
  clear HW HX

  have HAb : Hid (Calls Tryz.prog 39 #[.pointer (some ⟨p, 0, none⟩), .int .i64 at'] w1 fun e w' => e = .returned (errV 1) ∧ w' = w1) := arm_bad (some ⟨p, 0, none⟩) at' w1 (.inr hat)
  have hb0 : decide (at' < 0) = true := decide_eq_true hat
  obtain ⟨evv, hevv⟩ : ∃ evv, errV 1 = evv := ⟨_, rfl⟩
  rw [hevv] at HAb
  have HEV := Lib.hid hevv
  have HAll := Lib.hid (wd_all (pv := .pointer (some ⟨p, 0, none⟩)) (qv := .pointer (some ⟨q, 0, none⟩)) HV.out.2 HUu.out.2 rfl rfl)
  have HFin : Hid (∀ Y z, SB w0 w (fun k => X k ∨ (w.heap.size ≤ k ∧ k < w1.heap.size)) (Mine p aa bb q rv ev) Y p aa bb q d K J rv ev ra rc x.l ea ec J.ends #[.pointer (some ⟨p, 0, none⟩), .pointer (some ⟨q, 0, none⟩), v0, v1, v2, v3, v4, v5, u0, u1, u2, u3, u4, u5, u6, u7, u8] #[.int .i64 ag, .int .i64 af, .int .i64 az] #[.int .i64 kd, .int .i64 at', .slice da n dc, .slice ca cn cc] z → StTo w0 w X (Mine p aa bb q rv ev) p aa bb K ⟨ag, af, az⟩ (.returned (.tuple #[.agg #[.pointer (some ⟨p, 0, none⟩), .pointer (some ⟨q, 0, none⟩), v0, v1, v2, v3, v4, v5, u0, u1, u2, u3, u4, u5, u6, u7, u8], .bool true])) Y) := fun Y z hS => step_end hS (fun k hk => .inl hk) HP.out.tie HP.out.rs HP.out.lf HP.out.ja HP.out.inn HP.out.calm HV.out.1 HUu.out.1 (by omega) (by omega)
  clear hevv hat
  refine HAb.out.mono ?_
  rintro e wq ⟨rfl, hwq⟩
  obtain rfl : w1 = wq := hwq.symm
  have HSf := HS
  clear HAb hwq HM HS c0 c1
  go_wp2_with fail
  clear e0 e1 e2 e3

  have GW : Hid (∀ V, Two (w.heap.size + 1 + 1 + 1) (w.heap.size + 1 + 1 + 1) w1 V → (Instr.loadAt 49 (.pointer (some ⟨w.heap.size, 0, none⟩))).run Tryz.prog V = .ok (.agg #[.pointer (some ⟨p, 0, none⟩), .pointer (some ⟨q, 0, none⟩), v0, v1, v2, v3, v4, v5, u0, u1, u2, u3, u4, u5, u6, u7, u8]) V) := fun V hV => load_wd (hV.at HSf.out.wd (by omega) (by omega)) rfl
  have HNm : Hid (∀ V, Below w1.heap.size w1 V → Calls Tryz.prog 9 #[evv] V fun e w' => e = .returned (.int .i64 1) ∧ Below V.heap.size V w') := fun V hV => by
    rw [← HEV.out]
    exact num_ 1 V (HE.out.on (below_step HSf.out.bw hV))
  refine wp_region_noPanic ?_
  refine wp_region_held_drew (S := fun V => Two (w.heap.size + 1 + 1 + 1) (w.heap.size + 1 + 1 + 1) w1 V) (by kernel_rfl) (Two.drew _ _ _) (fun hHeld => ?_)
  refine tk 0 (.agg #[.pointer (some ⟨p, 0, none⟩), .pointer (some ⟨q, 0, none⟩), v0, v1, v2, v3, v4, v5, u0, u1, u2, u3, u4, u5, u6, u7, u8]) (hy := (yields_load (by rfl) 49 _ (by rfl) _ _ (by rfl) (GW.out))) (h := ?_)
  refine tk 1 (evv) (h := ?_)
  refine wpAnyH_ready (rs := [2]) (by kernel_rfl) (by simp) ?_
  refine AllReadyH.cons rfl (fun KK hK => ?_) AllReadyH.nil
  go_simp
  go_wp2_with (first | (go_at_call 9; refine (HNm.out _ (below_drew _)).mono ?_; rintro e Y2 ⟨rfl, hy2⟩))
  refine hK.out _ _ ?_ (fun hHeld2 => ?_)
  · exact Two.on (Two.drew _ _ _) hy2
  clear hK KK
  refine tk 3 (.bool true) (h := ?_)
  have hY2 := (HSf.out.on (below_drew _)).on hy2
  obtain ⟨Y3, hys, hyp⟩ := put_wd (cs := #[.pointer (some ⟨p, 0, none⟩), .pointer (some ⟨q, 0, none⟩), v0, v1, v2, v3, v4, v5, u0, u1, u2, u3, u4, u5, u6, u7, u8]) hY2.out rfl rfl HAll.out
  have hT3 : Two (w.heap.size + 1 + 1 + 1) (w.heap.size + 1 + 1 + 1) w1 Y3 := Two.put hHeld2 hyp (.inl rfl)
  have HEn := Lib.hid (And.intro hyp.blk (HFin.out Y3 _ (hY2.puto hyp)))
  clear hyp hY2 hy2 HSf HFin HNm GW
  refine ready_store 4 rfl (by kernel_rfl) (by rfl) 49 _ _ (by rfl) _ _ (by rfl) (by rfl) hys hT3 ?_
  refine tk 5 (.bool true) (h := ?_)
  refine wpAnyH_done (by kernel_rfl) ?_ _
  refine NoPanic.normal ?_
  go_wp2_with fail
  exact bodyPost_ret (results_wd rfl _ _ (w.heap.size + 1 + 1 + 1) _ (.bool true) rfl rfl HEn.out.1 rfl) rfl HEn.out.2
set_option maxRecDepth 100000 in
set_option maxHeartbeats 8000000 in
theorem step4b_ {w0 w : World} {X : Nat → Prop} {p aa bb q : Nat} {d : Dev} {K : Nat} {J : Jr} {rv ev : Value} {x : RD} {ra : Option Addr} {rc : Nat} {ea : Option Addr} {ec : Nat} {a : Ar} {A : ActV} {v0 v1 v2 v3 v4 v5 u0 u1 u2 u3 u4 u5 u6 u7 u8 : Value} (h : Wd w0 w X p aa bb q d K J rv ev x ra rc ea ec a) (hA : AOk w0 A) (hE : ErrType w0) (hK : K + 24 ≤ 1000000) (hv : rdV x ra rc = .agg #[v0, v1, v2, v3, v4, v5]) (hv1 : (#[v0, v1, v2, v3, v4, v5] : Array Value).all (·.oneCell') = true) (hu : rjV J ea ec = .agg #[u0, u1, u2, u3, u4, u5, u6, u7, u8]) (hu1 : (#[u0, u1, u2, u3, u4, u5, u6, u7, u8] : Array Value).all (·.oneCell') = true) (hk : wrap64 ((IntKind.u64.wrap A.kind).tmod 7) = 4 ∧ IntKind.i64.wrap ((IntKind.u64.wrap A.kind).tmod 7) = 4) (hat : 0 ≤ A.at' ∧ A.at' ≤ 9223372036854775807) :
    Calls Tryz.prog 12 #[.agg #[.pointer (some ⟨p, 0, none⟩), .pointer (some ⟨q, 0, none⟩), v0, v1, v2, v3, v4, v5, u0, u1, u2, u3, u4, u5, u6, u7, u8], arV a, actV A] w (StTo w0 w X (Mine p aa bb q rv ev) p aa bb K a) := by
  obtain ⟨kd, at', da, dxs, dc, ca, cs, cc⟩ := A
  have HP := Lib.hid h
  have HA := Lib.hid hA
  have HE := Lib.hid hE
  have hs12 : a.s.toNat ≤ 12 := by have q1 := h.inn.2.2.2.2.1; rw [h.rs.2] at q1; omega
  have hja := h.ja
  have HOk := Lib.hid h.jn.jr.ok
  have HV := Lib.hid (And.intro hv hv1)
  have HUu := Lib.hid (And.intro hu hu1)
  obtain ⟨ag, af, az⟩ := a
  unfold actV arV
  dsimp only at hk hs12 ⊢ hat
  generalize hn : dxs.length = n at *
  generalize hcn : cs.length = cn at *
  have HN := Lib.hid hn
  have HCN := Lib.hid hcn
  have HDL : Hid (n ≤ 140737488351232) := by
    have q : dxs.length ≤ 140737488351232 := HA.out.dl
    rw [hn] at q; exact q
  obtain ⟨W, hW⟩ : ∃ W, W = (((w.alloc (.cells #[.pointer (some ⟨p, 0, none⟩), .pointer (some ⟨q, 0, none⟩), v0, v1, v2, v3, v4, v5, u0, u1, u2, u3, u4, u5, u6, u7, u8] 49)).alloc (.cells #[.int .i64 ag, .int .i64 af, .int .i64 az] 36)).alloc (.cells #[.int .i64 kd, .int .i64 at', .slice da n dc, .slice ca cn cc] 55)).alloc (.cells #[.pointer none, .pointer none, .int .i64 0, .int .i64 0, .slice none 0 0, .bool false, .bool false, .int .i64 0, .int .i64 0, .int .i64 0, .int .i64 0, .int .u64 0, .string ⟨#[]⟩, .slice none 0 0, .int .i64 0, .int .i64 0, .int .i64 0] 49) := ⟨_, rfl⟩
  have hWf := four_at w (.cells #[.pointer (some ⟨p, 0, none⟩), .pointer (some ⟨q, 0, none⟩), v0, v1, v2, v3, v4, v5, u0, u1, u2, u3, u4, u5, u6, u7, u8] 49) (.cells #[.int .i64 ag, .int .i64 af, .int .i64 az] 36) (.cells #[.int .i64 kd, .int .i64 at', .slice da n dc, .slice ca cn cc] 55) (.cells #[.pointer none, .pointer none, .int .i64 0, .int .i64 0, .slice none 0 0, .bool false, .bool false, .int .i64 0, .int .i64 0, .int .i64 0, .int .i64 0, .int .u64 0, .string ⟨#[]⟩, .slice none 0 0, .int .i64 0, .int .i64 0, .int .i64 0] 49)
  rw [← hW] at hWf
  have HX := Lib.hid hWf
  have HW := Lib.hid hW
  clear h hA hE hn hcn hW hWf hv hu hv1 hu1
  obtain ⟨hk1, hk2⟩ := hk
  go_enter Tryz.func12, Tryz.ntmps12
  go_wp2_with (first
    | (at_builtin; rw [← HW.out]; refine wpList_append_bytes _ rfl _ _ rfl W.heap.size _ [] dxs rfl (own_nil _ _) da n dc rfl HN.out HA.out.dn (HA.out.dat.on (below_step HP.out.bw HX.out.2.2.2.2)) (by have := HA.out.dl; simp only [List.length_nil, Nat.zero_add]; exact Nat.le_trans this (by omega)) (Nat.le_refl _) ?_
       intro v1 w1 hown hgrow
       have hb1 := below_grow (Below.refl _ W) (own_nil W W.heap.size) hgrow
       have hown' : Own w1 W.heap.size v1 dxs := hown
       obtain ⟨ma, mc, hma, hmi⟩ := mine_at hown'
       rw [HN.out] at hma
       subst hma
       have HM := Lib.hid (And.intro hown' hmi)
       have HS := Lib.hid (sb_start HP.out (below_step HX.out.2.2.2.2 hb1) ((hb1.block _ (blk_lt HX.out.1)).trans HX.out.1) ((hb1.block _ (blk_lt HX.out.2.1)).trans HX.out.2.1) ((hb1.block _ (blk_lt HX.out.2.2.1)).trans HX.out.2.2.1) ((hb1.block _ (blk_lt HX.out.2.2.2.1)).trans HX.out.2.2.2.1))
       have HlW : Hid (w.heap.size + 1 + 1 + 1 < W.heap.size) := blk_lt HX.out.2.2.2.1
       obtain ⟨e0, e1, e2, e3⟩ := act_cells HS.out.ac
       have c0 : w1.cell? ⟨w.heap.size, 0, none⟩ = some (.pointer (some ⟨p, 0, none⟩)) := cell_of HS.out.wd rfl
       have c1 : w1.cell? ⟨w.heap.size, 1, none⟩ = some (.pointer (some ⟨q, 0, none⟩)) := cell_of HS.out.wd rfl
       clear hown hgrow hb1 hown' hmi)
    | fail)
  clear HW HX

  have HAb : Hid (Calls Tryz.prog 39 #[.pointer (some ⟨p, 0, none⟩), .int .i64 at'] w1 fun e w' => e = .returned .nilIface ∧ DevIn w' p aa bb { d with armed := true, left := at' } K ∧ Fd p aa bb w1 w') := arm_ HS.out.jn.dev at' hat.1 hat.2
  have hb0 : decide (at' < 0) = false := decide_eq_false (by omega)
  have hv4 : rdV { x with armed := true, left := at' } ra rc = .agg #[v0, v1, v2, v3, .bool true, .int .i64 at'] := by
    have q := HV.out.1
    unfold rdV rdC at q ⊢
    injection q with q1
    simp only [Array.mk.injEq, List.cons.injEq] at q1
    obtain ⟨q0, q1, q2, q3, _⟩ := q1
    rw [← q0, ← q1, ← q2, ← q3]
  have hv5 : (#[v0, v1, v2, v3, .bool true, .int .i64 at'] : Array Value).all (·.oneCell') = true := by
    obtain ⟨_, _, _, _, _, _, k1, k2⟩ := rd_ex { x with armed := true, left := at' } ra rc
    rw [hv4] at k1
    injection k1 with k3
    rw [k3]; exact k2
  have HAll := Lib.hid (wd_all (pv := .pointer (some ⟨p, 0, none⟩)) (qv := .pointer (some ⟨q, 0, none⟩)) hv5 HUu.out.2 rfl rfl)
  have HFin : Hid (∀ Y z, SB w0 w (fun k => X k ∨ (w.heap.size ≤ k ∧ k < w1.heap.size)) (Mine p aa bb q rv ev) Y p aa bb q { d with armed := true, left := at' } K J rv ev ra rc x.l ea ec J.ends #[.pointer (some ⟨p, 0, none⟩), .pointer (some ⟨q, 0, none⟩), v0, v1, v2, v3, .bool true, .int .i64 at', u0, u1, u2, u3, u4, u5, u6, u7, u8] #[.int .i64 ag, .int .i64 af, .int .i64 az] #[.int .i64 kd, .int .i64 at', .slice da n dc, .slice ca cn cc] z → StTo w0 w X (Mine p aa bb q rv ev) p aa bb K ⟨ag, af, az⟩ (.returned (.tuple #[.agg #[.pointer (some ⟨p, 0, none⟩), .pointer (some ⟨q, 0, none⟩), v0, v1, v2, v3, .bool true, .int .i64 at', u0, u1, u2, u3, u4, u5, u6, u7, u8], .bool true])) Y) := fun Y z hS => step_end (x := { x with armed := true, left := at' }) hS (fun k hk => .inl hk) (tie_armed HP.out.tie at') HP.out.rs hat HP.out.ja HP.out.inn (arm_calm HP.out.calm true at') hv4 HUu.out.1 (by omega) (by omega)
  have HPv : Hid (∀ v, v ∈ [v0, v1, v2, v3, v4, v5] → True) := fun _ _ => trivial
  refine HAb.out.mono ?_
  rintro e U1 ⟨rfl, hD, hF⟩
  have hS1 := HS.out.prog (HS.out.jn.fd hD hF) (Ext.of_fd q rv ev hF)
  have HS1 := Lib.hid hS1
  clear e0 e1 e2 e3 c0 c1
  obtain ⟨e0, e1, e2, e3⟩ := act_cells hS1.ac
  have g6 : U1.cell? ⟨w.heap.size, 6, none⟩ = some v4 := cell_of hS1.wd rfl
  have g7 : U1.cell? ⟨w.heap.size, 7, none⟩ = some v5 := cell_of hS1.wd rfl
  have fz6 : U1.frozen? ⟨w.heap.size, 6, none⟩ = false := frozen_of hS1.wd
  have fz7 : U1.frozen? ⟨w.heap.size, 7, none⟩ = false := frozen_of hS1.wd
  clear HAb hD hF hS1 HS HM hv4 hv5 hat HPv
  go_wp2_with fail
  go_region
  obtain ⟨U5, hU5⟩ : ∃ U5, U5 = (((U1.setCell ⟨w.heap.size, 6, none⟩ (.bool true)).setCell ⟨w.heap.size, 7, none⟩ (.int .i64 at')).drew) := ⟨_, rfl⟩
  have hp5 : Put U1 (w.heap.size) #[.pointer (some ⟨p, 0, none⟩), .pointer (some ⟨q, 0, none⟩), v0, v1, v2, v3, .bool true, .int .i64 at', u0, u1, u2, u3, u4, u5, u6, u7, u8] 49 U5 := by
    rw [hU5]
    exact ⟨(by have q := heap_set (o := 7) (.int .i64 at') (heap_set (o := 6) (.bool true) HS1.out.wd); simp only [List.setIfInBounds_toArray, List.set_cons_succ, List.set_cons_zero] at q; exact q), fun k hk => (heap_far _ hk).trans (heap_far _ hk), by simp [World.setCell, World.drew], rfl, rfl, rfl⟩
  have HSf := Lib.hid (HS1.out.putw hp5)
  rw [← hU5]
  clear hU5 hp5 HS1 g6 g7 fz6 fz7 e0 e1 e2 e3
  go_wp2_with fail
  have GW : Hid (∀ V, Two (w.heap.size + 1 + 1 + 1) (w.heap.size + 1 + 1 + 1) U5 V → (Instr.loadAt 49 (.pointer (some ⟨w.heap.size, 0, none⟩))).run Tryz.prog V = .ok (.agg #[.pointer (some ⟨p, 0, none⟩), .pointer (some ⟨q, 0, none⟩), v0, v1, v2, v3, .bool true, .int .i64 at', u0, u1, u2, u3, u4, u5, u6, u7, u8]) V) := fun V hV => load_wd (hV.at HSf.out.wd (by omega) (by omega)) rfl
  obtain ⟨Y3, hys, hyp⟩ := put_wd (w := U5.drew) (cs := #[.pointer (some ⟨p, 0, none⟩), .pointer (some ⟨q, 0, none⟩), v0, v1, v2, v3, .bool true, .int .i64 at', u0, u1, u2, u3, u4, u5, u6, u7, u8]) (HSf.out.on (below_drew _)).out rfl rfl HAll.out
  have hT3 : Two (w.heap.size + 1 + 1 + 1) (w.heap.size + 1 + 1 + 1) U5 Y3 := (Two.drew _ _ _).put hyp (.inl rfl)
  have HEn := Lib.hid (And.intro hyp.blk (HFin.out Y3 _ ((HSf.out.on (below_drew _)).puto hyp)))
  clear hyp HSf HFin
  refine wp_region_noPanic ?_
  refine wp_region_held_drew (S := fun V => Two (w.heap.size + 1 + 1 + 1) (w.heap.size + 1 + 1 + 1) U5 V) (by kernel_rfl) (Two.drew _ _ _) (fun hHeld => ?_)
  refine tk 0 (.agg #[.pointer (some ⟨p, 0, none⟩), .pointer (some ⟨q, 0, none⟩), v0, v1, v2, v3, .bool true, .int .i64 at', u0, u1, u2, u3, u4, u5, u6, u7, u8]) (hy := (yields_load (by rfl) 49 _ (by rfl) _ _ (by rfl) (GW.out))) (h := ?_)
  refine tk 1 (.nilIface) (h := ?_)
  refine tk 2 (.bool true) (h := ?_)
  refine ready_store 3 rfl (by kernel_rfl) (by rfl) 49 _ _ (by rfl) _ _ (by rfl) (by rfl) hys hT3 ?_
  refine tk 4 (.bool true) (h := ?_)
  refine wpAnyH_done (by kernel_rfl) ?_ _
  refine NoPanic.normal ?_
  go_wp2_with fail
  exact bodyPost_ret (results_wd rfl _ _ (w.heap.size + 1 + 1 + 1) _ (.bool true) rfl rfl HEn.out.1 rfl) rfl HEn.out.2
set_option maxRecDepth 100000 in
set_option maxHeartbeats 8000000 in
theorem step0_ {w0 w : World} {X : Nat → Prop} {p aa bb q : Nat} {d : Dev} {K : Nat} {J : Jr} {rv ev : Value} {x : RD} {ra : Option Addr} {rc : Nat} {ea : Option Addr} {ec : Nat} {a : Ar} {A : ActV} {v0 v1 v2 v3 v4 v5 u0 u1 u2 u3 u4 u5 u6 u7 u8 : Value} (h : Wd w0 w X p aa bb q d K J rv ev x ra rc ea ec a) (hA : AOk w0 A) (hE : ErrType w0) (hK : K + 24 ≤ 1000000) (hv : rdV x ra rc = .agg #[v0, v1, v2, v3, v4, v5]) (hv1 : (#[v0, v1, v2, v3, v4, v5] : Array Value).all (·.oneCell') = true) (hu : rjV J ea ec = .agg #[u0, u1, u2, u3, u4, u5, u6, u7, u8]) (hu1 : (#[u0, u1, u2, u3, u4, u5, u6, u7, u8] : Array Value).all (·.oneCell') = true) (hk : wrap64 ((IntKind.u64.wrap A.kind).tmod 7) = 0 ∧ IntKind.i64.wrap ((IntKind.u64.wrap A.kind).tmod 7) = 0) :
    Calls Tryz.prog 12 #[.agg #[.pointer (some ⟨p, 0, none⟩), .pointer (some ⟨q, 0, none⟩), v0, v1, v2, v3, v4, v5, u0, u1, u2, u3, u4, u5, u6, u7, u8], arV a, actV A] w (StTo w0 w X (Mine p aa bb q rv ev) p aa bb K a) := by
  obtain ⟨kd, at', da, dxs, dc, ca, cs, cc⟩ := A
  have HP := Lib.hid h
  have HA := Lib.hid hA
  have HE := Lib.hid hE
  have hs12 : a.s.toNat ≤ 12 := by have q1 := h.inn.2.2.2.2.1; rw [h.rs.2] at q1; omega
  have hja := h.ja
  have HOk := Lib.hid h.jn.jr.ok
  have HV := Lib.hid (And.intro hv hv1)
  have HUu := Lib.hid (And.intro hu hu1)
  obtain ⟨ag, af, az⟩ := a
  unfold actV arV
  dsimp only at hk hs12 ⊢
  generalize hn : dxs.length = n at *
  generalize hcn : cs.length = cn at *
  have HN := Lib.hid hn
  have HCN := Lib.hid hcn
  have HDL : Hid (n ≤ 140737488351232) := by
    have q : dxs.length ≤ 140737488351232 := HA.out.dl
    rw [hn] at q; exact q
  obtain ⟨W, hW⟩ : ∃ W, W = (((w.alloc (.cells #[.pointer (some ⟨p, 0, none⟩), .pointer (some ⟨q, 0, none⟩), v0, v1, v2, v3, v4, v5, u0, u1, u2, u3, u4, u5, u6, u7, u8] 49)).alloc (.cells #[.int .i64 ag, .int .i64 af, .int .i64 az] 36)).alloc (.cells #[.int .i64 kd, .int .i64 at', .slice da n dc, .slice ca cn cc] 55)).alloc (.cells #[.pointer none, .pointer none, .int .i64 0, .int .i64 0, .slice none 0 0, .bool false, .bool false, .int .i64 0, .int .i64 0, .int .i64 0, .int .i64 0, .int .u64 0, .string ⟨#[]⟩, .slice none 0 0, .int .i64 0, .int .i64 0, .int .i64 0] 49) := ⟨_, rfl⟩
  have hWf := four_at w (.cells #[.pointer (some ⟨p, 0, none⟩), .pointer (some ⟨q, 0, none⟩), v0, v1, v2, v3, v4, v5, u0, u1, u2, u3, u4, u5, u6, u7, u8] 49) (.cells #[.int .i64 ag, .int .i64 af, .int .i64 az] 36) (.cells #[.int .i64 kd, .int .i64 at', .slice da n dc, .slice ca cn cc] 55) (.cells #[.pointer none, .pointer none, .int .i64 0, .int .i64 0, .slice none 0 0, .bool false, .bool false, .int .i64 0, .int .i64 0, .int .i64 0, .int .i64 0, .int .u64 0, .string ⟨#[]⟩, .slice none 0 0, .int .i64 0, .int .i64 0, .int .i64 0] 49)
  rw [← hW] at hWf
  have HX := Lib.hid hWf
  have HW := Lib.hid hW
  clear h hA hE hn hcn hW hWf hv hu hv1 hu1
  obtain ⟨hk1, hk2⟩ := hk
  go_enter Tryz.func12, Tryz.ntmps12
  go_wp2_with (first
    | (at_builtin; rw [← HW.out]; refine wpList_append_bytes _ rfl _ _ rfl W.heap.size _ [] dxs rfl (own_nil _ _) da n dc rfl HN.out HA.out.dn (HA.out.dat.on (below_step HP.out.bw HX.out.2.2.2.2)) (by have := HA.out.dl; simp only [List.length_nil, Nat.zero_add]; exact Nat.le_trans this (by omega)) (Nat.le_refl _) ?_
       intro v1 w1 hown hgrow
       have hb1 := below_grow (Below.refl _ W) (own_nil W W.heap.size) hgrow
       have hown' : Own w1 W.heap.size v1 dxs := hown
       obtain ⟨ma, mc, hma, hmi⟩ := mine_at hown'
       rw [HN.out] at hma
       subst hma
       have HM := Lib.hid (And.intro hown' hmi)
       have HS := Lib.hid (sb_start HP.out (below_step HX.out.2.2.2.2 hb1) ((hb1.block _ (blk_lt HX.out.1)).trans HX.out.1) ((hb1.block _ (blk_lt HX.out.2.1)).trans HX.out.2.1) ((hb1.block _ (blk_lt HX.out.2.2.1)).trans HX.out.2.2.1) ((hb1.block _ (blk_lt HX.out.2.2.2.1)).trans HX.out.2.2.2.1))
       have HlW : Hid (w.heap.size + 1 + 1 + 1 < W.heap.size) := blk_lt HX.out.2.2.2.1
       obtain ⟨e0, e1, e2, e3⟩ := act_cells HS.out.ac
       have c0 : w1.cell? ⟨w.heap.size, 0, none⟩ = some (.pointer (some ⟨p, 0, none⟩)) := cell_of HS.out.wd rfl
       have c1 : w1.cell? ⟨w.heap.size, 1, none⟩ = some (.pointer (some ⟨q, 0, none⟩)) := cell_of HS.out.wd rfl
       clear hown hgrow hb1 hown' hmi)
    | fail)
  clear HW HX

  have HAp := Lib.hid (jappend_ HS.out.jn ma dxs n mc HN.out HM.out.2.1 HA.out.by8 HM.out.2.2.1 (by have := HDL.out; omega))
  refine HAp.out.mono ?_
  rintro e U1 ⟨rfl, hjn⟩
  have hS0 := HS.out
  obtain ⟨rv1, ev1, hj1, hx1⟩ := hjn
  have hS1 := hS0.prog hj1 hx1
  have hown1 : Own U1 W.heap.size (.slice ma n mc) dxs := row_keep HM.out.1 fun g hg => hx1.block g (World.ownsRow.lt HM.out.1 g hg).2 fun m => by
    have q1 := (World.ownsRow.lt HM.out.1 g hg).1
    have q2 := (HP.out.jn.mine g m).2
    have := HlW.out
    omega
  have HRf : Hid (Calls Tryz.prog 35 #[.agg #[u0, u1, u2, u3, u4, u5, u6, u7, u8], .slice da n dc] U1 (RapTo U1 (fun k => Mine p aa bb q rv1 ev1 k ∨ (X k ∨ (w.heap.size ≤ k ∧ k < w1.heap.size))) (appJ J dxs) (appE J dxs))) := by
    have q := rappend_ (w := U1) HOk.out ea ec (fun k => Mine p aa bb q rv1 ev1 k ∨ (X k ∨ (w.heap.size ≤ k ∧ k < w1.heap.size))) hS1.M hS1.ed da dxs n dc HN.out (HA.out.dat.on hS1.bw) HA.out.by8 HA.out.dn (by have := HDL.out; omega)
    rw [HUu.out.1] at q
    exact q
  have HLj := Lib.hid (load_wj hS1.wd)
  have HS1 := Lib.hid hS1
  have HO1 := Lib.hid hown1
  have HCm := Lib.hid (app_calm HP.out.calm HOk.out dxs)
  have HJa : Hid ((appJ J dxs).a = (⟨ag, af, az⟩ : Ar)) := by show _ = _; rw [(app_keeps J dxs).1]; exact hja
  clear e0 e1 e2 e3
  obtain ⟨e0, e1, e2, e3⟩ := act_cells hS1.ac
  obtain ⟨J9, hJ9⟩ : ∃ J9, J9 = appJ J dxs := ⟨_, rfl⟩
  obtain ⟨E, hE9⟩ : ∃ E, E = appE J dxs := ⟨_, rfl⟩
  rw [← hE9] at HRf ⊢
  rw [← hJ9] at HRf HS1 HCm HJa
  obtain ⟨evv, hevv⟩ : ∃ evv, errV E = evv := ⟨_, rfl⟩
  rw [hevv]
  have HEV := Lib.hid hevv
  have HgX : Hid (∀ g o, ma = some ⟨g, o, none⟩ → w.heap.size + 1 + 1 + 1 < g ∧ g < w1.heap.size) := fun g o e => by
    have q1 := World.ownsRow.lt HM.out.1 g (by rw [e]; rfl)
    have := HlW.out
    exact ⟨by omega, q1.2⟩
  clear hj1 hx1 hS0 hS1 hown1 HS c0 c1 hJ9 hE9 hevv HM HAp
  go_wp2_with (first
    | (refine wpList_load_at rfl 43 _ rfl _ _ rfl HLj.out ?_)
    | fail)
  refine HRf.out.mono ?_
  rintro e U2 ⟨ea', ec', rfl, hEd2, hb2⟩
  obtain ⟨u0', u1', u2', u3', u4', u5', u6', u7', u8', hu', hu1', hu3'⟩ := rj_ex J9 ea' ec'
  clear hu3'
  rw [hu']
  have hS2 := HS1.out.ref hb2 (HS1.out.ls.on hb2) hEd2
  obtain ⟨U3, hs3, hp3⟩ := store_wj hS2.wd hu1'
  have HS3 := Lib.hid (hS2.putw hp3)
  have HSt3 := Lib.hid hs3
  have HO3 : Hid (∃ ys : List Nat, ys.length = n ∧ Own U3 W.heap.size (.slice ma n mc) ys) := ⟨dxs, HN.out, row_keep (HO1.out.on hb2) fun g hg => hp3.far g fun e => by
    have q := (World.ownsRow.lt HO1.out g hg).1
    have := HlW.out
    omega⟩
  have HAll := Lib.hid (wd_all (pv := .pointer (some ⟨p, 0, none⟩)) (qv := .pointer (some ⟨q, 0, none⟩)) HV.out.2 hu1' rfl rfl)
  have HFin : Hid (∀ Y z, SB w0 w (fun k => X k ∨ (w.heap.size ≤ k ∧ k < w1.heap.size)) (Mine p aa bb q rv ev) Y p aa bb q d K J9 rv1 ev1 ra rc x.l ea' ec' J9.ends #[.pointer (some ⟨p, 0, none⟩), .pointer (some ⟨q, 0, none⟩), v0, v1, v2, v3, v4, v5, u0', u1', u2', u3', u4', u5', u6', u7', u8'] #[.int .i64 ag, .int .i64 af, .int .i64 az] #[.int .i64 kd, .int .i64 at', .slice da n dc, .slice ca cn cc] z → StTo w0 w X (Mine p aa bb q rv ev) p aa bb K ⟨ag, af, az⟩ (.returned (.tuple #[.agg #[.pointer (some ⟨p, 0, none⟩), .pointer (some ⟨q, 0, none⟩), v0, v1, v2, v3, v4, v5, u0', u1', u2', u3', u4', u5', u6', u7', u8'], .bool true])) Y) := fun Y z hS => step_end hS (fun k hk => .inl hk) HP.out.tie HP.out.rs HP.out.lf HJa.out HP.out.inn HCm.out HV.out.1 hu' (by omega) (by omega)
  have hnlim : n ≤ 140737488351232 := HDL.out
  clear hs3 hp3 hS2 hEd2 hb2 HS1 HRf HLj HCm HJa hu' hu1' HO1 e0 e1 e2 e3
  go_wp2_with (first
    | (refine wpList_store_at rfl 43 _ _ rfl _ _ rfl rfl HSt3.out ?_)
    | fail)
  go_loopw [11] (fun iv wr => ∃ i : Nat, iv = .int .i64 i ∧ i ≤ n ∧ Hid (SB w0 w (fun k => X k ∨ (w.heap.size ≤ k ∧ k < w1.heap.size)) (Mine p aa bb q rv ev) wr p aa bb q d K J9 rv1 ev1 ra rc x.l ea' ec' J9.ends #[.pointer (some ⟨p, 0, none⟩), .pointer (some ⟨q, 0, none⟩), v0, v1, v2, v3, v4, v5, u0', u1', u2', u3', u4', u5', u6', u7', u8'] #[.int .i64 ag, .int .i64 af, .int .i64 az] #[.int .i64 kd, .int .i64 at', .slice da n dc, .slice ca cn cc] #[.pointer none, .pointer none, .int .i64 0, .int .i64 0, .slice none 0 0, .bool false, .bool false, .int .i64 0, .int .i64 0, .int .i64 0, .int .i64 0, .int .u64 0, .string ⟨#[]⟩, .slice none 0 0, .int .i64 0, .int .i64 0, .int .i64 0]) ∧ Hid (∃ ys : List Nat, ys.length = n ∧ Own wr W.heap.size (.slice ma n mc) ys)) (fun iv _ => n - (intOf iv).toNat)
  case atStart => exact ⟨0, rfl, Nat.zero_le _, HS3, HO3⟩
  case round =>
    clear HS3 HO3
    obtain ⟨i, rfl, hin, HSr, HOr⟩ := hrel
    by_cases hlt : i < n
    · have hlt2 : (i : Int) < (n : Int) := by omega
      have hi0 : (0 : Int) ≤ (i : Int) := by omega
      obtain ⟨ys, hyl, hown⟩ := HOr.out
      obtain ⟨g, hg⟩ : ∃ g, ma = some ⟨g, 0, none⟩ := by
        rcases hown.shape with ⟨q1, q2⟩ | ⟨g, c, q1, _⟩
        · rw [q2] at hyl; simp only [List.length_nil] at hyl; omega
        · injection q1 with q3; exact ⟨g, q3⟩
      subst hg
      have hrow : wr.ownsRow W.heap.size 5 1 (.slice (some ⟨g, 0, none⟩) n mc) n (vals ys) := by rw [← hyl]; rw [← hyl] at hown; exact hown
      obtain ⟨hO2, hG2⟩ := hrow.stored i (.int .u8 33)
      obtain ⟨cur, hcur⟩ := row_block hrow rfl
      have hgx := HgX.out g 0 rfl
      have HS2 := Lib.hid (HSr.out.setg (b := g) (o := i) (.inr ⟨by omega, hgx.2⟩) hgx.1 hcur (.int .u8 33))
      have HO2 : Hid (∃ zs : List Nat, zs.length = n ∧ Own (wr.setCell ⟨g, i, none⟩ (.int .u8 33)) W.heap.size (.slice (some ⟨g, 0, none⟩) n mc) zs) := ⟨ys.set i 33, by rw [List.length_set]; exact hyl, by
        unfold Own
        have e : vals (ys.set i 33) = (vals ys).set i (.int .u8 33) := by simp [vals, List.map_set]
        rw [e, List.length_set, hyl]
        exact hO2⟩
      have hcl : wr.cell? ⟨g, i, none⟩ = some (.int .u8 (ys.getD i 0 : Nat)) := by
        rw [hrow.cellAt i (by omega), vals_get ys i (by omega)]
      have hfz := hrow.frozenAt i
      generalize ys.getD i 0 = old at *
      clear hO2 hG2 hcur hown hrow hyl hgx
      go_wp2_with fail
      go_roundw
      case rel => exact ⟨i + 1, by go_num, by omega, HS2, HO2⟩
      case measure => simp [intOf]; omega
    · have hlt2 : ¬ (i : Int) < (n : Int) := by omega
      have HSf := HSr
      clear HSr HOr hlt
      go_wp2_with fail
      have GW : Hid (∀ V, Two (w.heap.size + 1 + 1 + 1) (w.heap.size + 1 + 1 + 1) wr V → (Instr.loadAt 49 (.pointer (some ⟨w.heap.size, 0, none⟩))).run Tryz.prog V = .ok (.agg #[.pointer (some ⟨p, 0, none⟩), .pointer (some ⟨q, 0, none⟩), v0, v1, v2, v3, v4, v5, u0', u1', u2', u3', u4', u5', u6', u7', u8']) V) := fun V hV => load_wd (hV.at HSf.out.wd (by omega) (by omega)) rfl
      have HNm : Hid (∀ V, Below wr.heap.size wr V → Calls Tryz.prog 9 #[evv] V fun e w' => e = .returned (.int .i64 (E : Nat)) ∧ Below V.heap.size V w') := fun V hV => by
        rw [← HEV.out]
        exact num_ E V (HE.out.on (below_step HSf.out.bw hV))
      refine wp_region_noPanic ?_
      refine wp_region_held_drew (S := fun V => Two (w.heap.size + 1 + 1 + 1) (w.heap.size + 1 + 1 + 1) wr V) (by kernel_rfl) (Two.drew _ _ _) (fun hHeld => ?_)
      refine tk 0 (.agg #[.pointer (some ⟨p, 0, none⟩), .pointer (some ⟨q, 0, none⟩), v0, v1, v2, v3, v4, v5, u0', u1', u2', u3', u4', u5', u6', u7', u8']) (hy := (yields_load (by rfl) 49 _ (by rfl) _ _ (by rfl) (GW.out))) (h := ?_)
      refine tk 1 (evv) (h := ?_)
      refine tk 3 (.int .i64 (E : Nat)) (h := ?_)
      refine wpAnyH_ready (rs := [2]) (by kernel_rfl) (by simp) ?_
      refine AllReadyH.cons rfl (fun KK hK => ?_) AllReadyH.nil
      go_simp
      go_wp2_with (first | (go_at_call 9; refine (HNm.out _ (below_drew _)).mono ?_; rintro e Y2 ⟨rfl, hy2⟩))
      refine hK.out _ _ ?_ (fun hHeld2 => ?_)
      · exact Two.on (Two.drew _ _ _) hy2
      clear hK KK
      refine tk 4 (.bool true) (h := ?_)
      have hY2 := (HSf.out.on (below_drew _)).on hy2
      obtain ⟨Y3, hys, hyp⟩ := put_wd (cs := #[.pointer (some ⟨p, 0, none⟩), .pointer (some ⟨q, 0, none⟩), v0, v1, v2, v3, v4, v5, u0', u1', u2', u3', u4', u5', u6', u7', u8']) hY2.out rfl rfl HAll.out
      have hT3 : Two (w.heap.size + 1 + 1 + 1) (w.heap.size + 1 + 1 + 1) wr Y3 := Two.put hHeld2 hyp (.inl rfl)
      have HEn := Lib.hid (And.intro hyp.blk (HFin.out Y3 _ (hY2.puto hyp)))
      clear hyp hY2 hy2 HSf HFin HNm GW
      refine ready_store 5 rfl (by kernel_rfl) (by rfl) 49 _ _ (by rfl) _ _ (by rfl) (by rfl) hys hT3 ?_
      refine tk 6 (.bool true) (h := ?_)
      refine wpAnyH_done (by kernel_rfl) ?_ _
      refine NoPanic.normal ?_
      go_wp2_with fail
      exact bodyPost_ret (results_wd rfl _ _ (w.heap.size + 1 + 1 + 1) _ (.bool true) rfl rfl HEn.out.1 rfl) rfl HEn.out.2
set_option maxRecDepth 100000 in
set_option maxHeartbeats 8000000 in
theorem step1_ {w0 w : World} {X : Nat → Prop} {p aa bb q : Nat} {d : Dev} {K : Nat} {J : Jr} {rv ev : Value} {x : RD} {ra : Option Addr} {rc : Nat} {ea : Option Addr} {ec : Nat} {a : Ar} {A : ActV} {v0 v1 v2 v3 v4 v5 u0 u1 u2 u3 u4 u5 u6 u7 u8 : Value} (h : Wd w0 w X p aa bb q d K J rv ev x ra rc ea ec a) (hA : AOk w0 A) (hE : ErrType w0) (hK : K + 24 ≤ 1000000) (hv : rdV x ra rc = .agg #[v0, v1, v2, v3, v4, v5]) (hv1 : (#[v0, v1, v2, v3, v4, v5] : Array Value).all (·.oneCell') = true) (hu : rjV J ea ec = .agg #[u0, u1, u2, u3, u4, u5, u6, u7, u8]) (hu1 : (#[u0, u1, u2, u3, u4, u5, u6, u7, u8] : Array Value).all (·.oneCell') = true) (hk : wrap64 ((IntKind.u64.wrap A.kind).tmod 7) = 1 ∧ IntKind.i64.wrap ((IntKind.u64.wrap A.kind).tmod 7) = 1) :
    Calls Tryz.prog 12 #[.agg #[.pointer (some ⟨p, 0, none⟩), .pointer (some ⟨q, 0, none⟩), v0, v1, v2, v3, v4, v5, u0, u1, u2, u3, u4, u5, u6, u7, u8], arV a, actV A] w (StTo w0 w X (Mine p aa bb q rv ev) p aa bb K a) := by
  obtain ⟨kd, at', da, dxs, dc, ca, cs, cc⟩ := A
  have HP := Lib.hid h
  have HA := Lib.hid hA
  have HE := Lib.hid hE
  have hs12 : a.s.toNat ≤ 12 := by have q1 := h.inn.2.2.2.2.1; rw [h.rs.2] at q1; omega
  have hja := h.ja
  have HOk := Lib.hid h.jn.jr.ok
  have HV := Lib.hid (And.intro hv hv1)
  have HUu := Lib.hid (And.intro hu hu1)
  obtain ⟨ag, af, az⟩ := a
  unfold actV arV
  dsimp only at hk hs12 ⊢
  generalize hn : dxs.length = n at *
  generalize hcn : cs.length = cn at *
  have HN := Lib.hid hn
  have HCN := Lib.hid hcn
  have HDL : Hid (n ≤ 140737488351232) := by
    have q : dxs.length ≤ 140737488351232 := HA.out.dl
    rw [hn] at q; exact q
  obtain ⟨W, hW⟩ : ∃ W, W = (((w.alloc (.cells #[.pointer (some ⟨p, 0, none⟩), .pointer (some ⟨q, 0, none⟩), v0, v1, v2, v3, v4, v5, u0, u1, u2, u3, u4, u5, u6, u7, u8] 49)).alloc (.cells #[.int .i64 ag, .int .i64 af, .int .i64 az] 36)).alloc (.cells #[.int .i64 kd, .int .i64 at', .slice da n dc, .slice ca cn cc] 55)).alloc (.cells #[.pointer none, .pointer none, .int .i64 0, .int .i64 0, .slice none 0 0, .bool false, .bool false, .int .i64 0, .int .i64 0, .int .i64 0, .int .i64 0, .int .u64 0, .string ⟨#[]⟩, .slice none 0 0, .int .i64 0, .int .i64 0, .int .i64 0] 49) := ⟨_, rfl⟩
  have hWf := four_at w (.cells #[.pointer (some ⟨p, 0, none⟩), .pointer (some ⟨q, 0, none⟩), v0, v1, v2, v3, v4, v5, u0, u1, u2, u3, u4, u5, u6, u7, u8] 49) (.cells #[.int .i64 ag, .int .i64 af, .int .i64 az] 36) (.cells #[.int .i64 kd, .int .i64 at', .slice da n dc, .slice ca cn cc] 55) (.cells #[.pointer none, .pointer none, .int .i64 0, .int .i64 0, .slice none 0 0, .bool false, .bool false, .int .i64 0, .int .i64 0, .int .i64 0, .int .i64 0, .int .u64 0, .string ⟨#[]⟩, .slice none 0 0, .int .i64 0, .int .i64 0, .int .i64 0] 49)
  rw [← hW] at hWf
  have HX := Lib.hid hWf
  have HW := Lib.hid hW
  clear h hA hE hn hcn hW hWf hv hu hv1 hu1
  obtain ⟨hk1, hk2⟩ := hk
  go_enter Tryz.func12, Tryz.ntmps12
  go_wp2_with (first
    | (at_builtin; rw [← HW.out]; refine wpList_append_bytes _ rfl _ _ rfl W.heap.size _ [] dxs rfl (own_nil _ _) da n dc rfl HN.out HA.out.dn (HA.out.dat.on (below_step HP.out.bw HX.out.2.2.2.2)) (by have := HA.out.dl; simp only [List.length_nil, Nat.zero_add]; exact Nat.le_trans this (by omega)) (Nat.le_refl _) ?_
       intro v1 w1 hown hgrow
       have hb1 := below_grow (Below.refl _ W) (own_nil W W.heap.size) hgrow
       have hown' : Own w1 W.heap.size v1 dxs := hown
       obtain ⟨ma, mc, hma, hmi⟩ := mine_at hown'
       rw [HN.out] at hma
       subst hma
       have HM := Lib.hid (And.intro hown' hmi)
       have HS := Lib.hid (sb_start HP.out (below_step HX.out.2.2.2.2 hb1) ((hb1.block _ (blk_lt HX.out.1)).trans HX.out.1) ((hb1.block _ (blk_lt HX.out.2.1)).trans HX.out.2.1) ((hb1.block _ (blk_lt HX.out.2.2.1)).trans HX.out.2.2.1) ((hb1.block _ (blk_lt HX.out.2.2.2.1)).trans HX.out.2.2.2.1))
       have HlW : Hid (w.heap.size + 1 + 1 + 1 < W.heap.size) := blk_lt HX.out.2.2.2.1
       obtain ⟨e0, e1, e2, e3⟩ := act_cells HS.out.ac
       have c0 : w1.cell? ⟨w.heap.size, 0, none⟩ = some (.pointer (some ⟨p, 0, none⟩)) := cell_of HS.out.wd rfl
       have c1 : w1.cell? ⟨w.heap.size, 1, none⟩ = some (.pointer (some ⟨q, 0, none⟩)) := cell_of HS.out.wd rfl
       clear hown hgrow hb1 hown' hmi)
    | fail)
  clear HW HX

  have HAp := Lib.hid (jappend_ HS.out.jn ma dxs n mc HN.out HM.out.2.1 HA.out.by8 HM.out.2.2.1 (by have := HDL.out; omega))
  refine HAp.out.mono ?_
  rintro e U1 ⟨rfl, hjn⟩
  have hS0 := HS.out
  obtain ⟨rv1, ev1, hj1, hx1⟩ := hjn
  have hS1 := hS0.prog hj1 hx1
  have hown1 : Own U1 W.heap.size (.slice ma n mc) dxs := row_keep HM.out.1 fun g hg => hx1.block g (World.ownsRow.lt HM.out.1 g hg).2 fun m => by
    have q1 := (World.ownsRow.lt HM.out.1 g hg).1
    have q2 := (HP.out.jn.mine g m).2
    have := HlW.out
    omega
  have HRf : Hid (Calls Tryz.prog 35 #[.agg #[u0, u1, u2, u3, u4, u5, u6, u7, u8], .slice da n dc] U1 (RapTo U1 (fun k => Mine p aa bb q rv1 ev1 k ∨ (X k ∨ (w.heap.size ≤ k ∧ k < w1.heap.size))) (appJ J dxs) (appE J dxs))) := by
    have q := rappend_ (w := U1) HOk.out ea ec (fun k => Mine p aa bb q rv1 ev1 k ∨ (X k ∨ (w.heap.size ≤ k ∧ k < w1.heap.size))) hS1.M hS1.ed da dxs n dc HN.out (HA.out.dat.on hS1.bw) HA.out.by8 HA.out.dn (by have := HDL.out; omega)
    rw [HUu.out.1] at q
    exact q
  have HLj := Lib.hid (load_wj hS1.wd)
  have HS1 := Lib.hid hS1
  have HO1 := Lib.hid hown1
  have HCm := Lib.hid (app_calm HP.out.calm HOk.out dxs)
  have HJa : Hid ((appJ J dxs).a = (⟨ag, af, az⟩ : Ar)) := by show _ = _; rw [(app_keeps J dxs).1]; exact hja
  clear e0 e1 e2 e3
  obtain ⟨e0, e1, e2, e3⟩ := act_cells hS1.ac
  obtain ⟨J9, hJ9⟩ : ∃ J9, J9 = appJ J dxs := ⟨_, rfl⟩
  obtain ⟨E, hE9⟩ : ∃ E, E = appE J dxs := ⟨_, rfl⟩
  rw [← hE9] at HRf ⊢
  rw [← hJ9] at HRf HS1 HCm HJa
  obtain ⟨evv, hevv⟩ : ∃ evv, errV E = evv := ⟨_, rfl⟩
  rw [hevv]
  have HEV := Lib.hid hevv
  have HgX : Hid (∀ g o, ma = some ⟨g, o, none⟩ → w.heap.size + 1 + 1 + 1 < g ∧ g < w1.heap.size) := fun g o e => by
    have q1 := World.ownsRow.lt HM.out.1 g (by rw [e]; rfl)
    have := HlW.out
    exact ⟨by omega, q1.2⟩
  clear hj1 hx1 hS0 hS1 hown1 HS c0 c1 hJ9 hE9 hevv HM HAp
  go_wp2_with (first
    | (refine wpList_load_at rfl 43 _ rfl _ _ rfl HLj.out ?_)
    | fail)
  refine HRf.out.mono ?_
  rintro e U2 ⟨ea', ec', rfl, hEd2, hb2⟩
  obtain ⟨u0', u1', u2', u3', u4', u5', u6', u7', u8', hu', hu1', hu3'⟩ := rj_ex J9 ea' ec'
  clear hu3'
  rw [hu']
  have hS2 := HS1.out.ref hb2 (HS1.out.ls.on hb2) hEd2
  obtain ⟨U3, hs3, hp3⟩ := store_wj hS2.wd hu1'
  have HS3 := Lib.hid (hS2.putw hp3)
  have HSt3 := Lib.hid hs3
  have HO3 : Hid (∃ ys : List Nat, ys.length = n ∧ Own U3 W.heap.size (.slice ma n mc) ys) := ⟨dxs, HN.out, row_keep (HO1.out.on hb2) fun g hg => hp3.far g fun e => by
    have q := (World.ownsRow.lt HO1.out g hg).1
    have := HlW.out
    omega⟩
  have HAll := Lib.hid (wd_all (pv := .pointer (some ⟨p, 0, none⟩)) (qv := .pointer (some ⟨q, 0, none⟩)) HV.out.2 hu1' rfl rfl)
  have HFin : Hid (∀ Y z, SB w0 w (fun k => X k ∨ (w.heap.size ≤ k ∧ k < w1.heap.size)) (Mine p aa bb q rv ev) Y p aa bb q d K J9 rv1 ev1 ra rc x.l ea' ec' J9.ends #[.pointer (some ⟨p, 0, none⟩), .pointer (some ⟨q, 0, none⟩), v0, v1, v2, v3, v4, v5, u0', u1', u2', u3', u4', u5', u6', u7', u8'] #[.int .i64 ag, .int .i64 af, .int .i64 az] #[.int .i64 kd, .int .i64 at', .slice da n dc, .slice ca cn cc] z → StTo w0 w X (Mine p aa bb q rv ev) p aa bb K ⟨ag, af, az⟩ (.returned (.tuple #[.agg #[.pointer (some ⟨p, 0, none⟩), .pointer (some ⟨q, 0, none⟩), v0, v1, v2, v3, v4, v5, u0', u1', u2', u3', u4', u5', u6', u7', u8'], .bool true])) Y) := fun Y z hS => step_end hS (fun k hk => .inl hk) HP.out.tie HP.out.rs HP.out.lf HJa.out HP.out.inn HCm.out HV.out.1 hu' (by omega) (by omega)
  have hnlim : n ≤ 140737488351232 := HDL.out
  clear hs3 hp3 hS2 hEd2 hb2 HS1 HRf HLj HCm HJa hu' hu1' HO1 e0 e1 e2 e3
  go_wp2_with (first
    | (refine wpList_store_at rfl 43 _ _ rfl _ _ rfl rfl HSt3.out ?_)
    | fail)
  go_loopw [11] (fun iv wr => ∃ i : Nat, iv = .int .i64 i ∧ i ≤ n ∧ Hid (SB w0 w (fun k => X k ∨ (w.heap.size ≤ k ∧ k < w1.heap.size)) (Mine p aa bb q rv ev) wr p aa bb q d K J9 rv1 ev1 ra rc x.l ea' ec' J9.ends #[.pointer (some ⟨p, 0, none⟩), .pointer (some ⟨q, 0, none⟩), v0, v1, v2, v3, v4, v5, u0', u1', u2', u3', u4', u5', u6', u7', u8'] #[.int .i64 ag, .int .i64 af, .int .i64 az] #[.int .i64 kd, .int .i64 at', .slice da n dc, .slice ca cn cc] #[.pointer none, .pointer none, .int .i64 0, .int .i64 0, .slice none 0 0, .bool false, .bool false, .int .i64 0, .int .i64 0, .int .i64 0, .int .i64 0, .int .u64 0, .string ⟨#[]⟩, .slice none 0 0, .int .i64 0, .int .i64 0, .int .i64 0]) ∧ Hid (∃ ys : List Nat, ys.length = n ∧ Own wr W.heap.size (.slice ma n mc) ys)) (fun iv _ => n - (intOf iv).toNat)
  case atStart => exact ⟨0, rfl, Nat.zero_le _, HS3, HO3⟩
  case round =>
    clear HS3 HO3
    obtain ⟨i, rfl, hin, HSr, HOr⟩ := hrel
    by_cases hlt : i < n
    · have hlt2 : (i : Int) < (n : Int) := by omega
      have hi0 : (0 : Int) ≤ (i : Int) := by omega
      obtain ⟨ys, hyl, hown⟩ := HOr.out
      obtain ⟨g, hg⟩ : ∃ g, ma = some ⟨g, 0, none⟩ := by
        rcases hown.shape with ⟨q1, q2⟩ | ⟨g, c, q1, _⟩
        · rw [q2] at hyl; simp only [List.length_nil] at hyl; omega
        · injection q1 with q3; exact ⟨g, q3⟩
      subst hg
      have hrow : wr.ownsRow W.heap.size 5 1 (.slice (some ⟨g, 0, none⟩) n mc) n (vals ys) := by rw [← hyl]; rw [← hyl] at hown; exact hown
      obtain ⟨hO2, hG2⟩ := hrow.stored i (.int .u8 33)
      obtain ⟨cur, hcur⟩ := row_block hrow rfl
      have hgx := HgX.out g 0 rfl
      have HS2 := Lib.hid (HSr.out.setg (b := g) (o := i) (.inr ⟨by omega, hgx.2⟩) hgx.1 hcur (.int .u8 33))
      have HO2 : Hid (∃ zs : List Nat, zs.length = n ∧ Own (wr.setCell ⟨g, i, none⟩ (.int .u8 33)) W.heap.size (.slice (some ⟨g, 0, none⟩) n mc) zs) := ⟨ys.set i 33, by rw [List.length_set]; exact hyl, by
        unfold Own
        have e : vals (ys.set i 33) = (vals ys).set i (.int .u8 33) := by simp [vals, List.map_set]
        rw [e, List.length_set, hyl]
        exact hO2⟩
      have hcl : wr.cell? ⟨g, i, none⟩ = some (.int .u8 (ys.getD i 0 : Nat)) := by
        rw [hrow.cellAt i (by omega), vals_get ys i (by omega)]
      have hfz := hrow.frozenAt i
      generalize ys.getD i 0 = old at *
      clear hO2 hG2 hcur hown hrow hyl hgx
      go_wp2_with fail
      go_roundw
      case rel => exact ⟨i + 1, by go_num, by omega, HS2, HO2⟩
      case measure => simp [intOf]; omega
    · have hlt2 : ¬ (i : Int) < (n : Int) := by omega
      have HSf := HSr
      clear HSr HOr hlt
      go_wp2_with fail
      have GW : Hid (∀ V, Two (w.heap.size + 1 + 1 + 1) (w.heap.size + 1 + 1 + 1) wr V → (Instr.loadAt 49 (.pointer (some ⟨w.heap.size, 0, none⟩))).run Tryz.prog V = .ok (.agg #[.pointer (some ⟨p, 0, none⟩), .pointer (some ⟨q, 0, none⟩), v0, v1, v2, v3, v4, v5, u0', u1', u2', u3', u4', u5', u6', u7', u8']) V) := fun V hV => load_wd (hV.at HSf.out.wd (by omega) (by omega)) rfl
      have HNm : Hid (∀ V, Below wr.heap.size wr V → Calls Tryz.prog 9 #[evv] V fun e w' => e = .returned (.int .i64 (E : Nat)) ∧ Below V.heap.size V w') := fun V hV => by
        rw [← HEV.out]
        exact num_ E V (HE.out.on (below_step HSf.out.bw hV))
      refine wp_region_noPanic ?_
      refine wp_region_held_drew (S := fun V => Two (w.heap.size + 1 + 1 + 1) (w.heap.size + 1 + 1 + 1) wr V) (by kernel_rfl) (Two.drew _ _ _) (fun hHeld => ?_)
      refine tk 0 (.agg #[.pointer (some ⟨p, 0, none⟩), .pointer (some ⟨q, 0, none⟩), v0, v1, v2, v3, v4, v5, u0', u1', u2', u3', u4', u5', u6', u7', u8']) (hy := (yields_load (by rfl) 49 _ (by rfl) _ _ (by rfl) (GW.out))) (h := ?_)
      refine tk 1 (evv) (h := ?_)
      refine tk 3 (.int .i64 (E : Nat)) (h := ?_)
      refine wpAnyH_ready (rs := [2]) (by kernel_rfl) (by simp) ?_
      refine AllReadyH.cons rfl (fun KK hK => ?_) AllReadyH.nil
      go_simp
      go_wp2_with (first | (go_at_call 9; refine (HNm.out _ (below_drew _)).mono ?_; rintro e Y2 ⟨rfl, hy2⟩))
      refine hK.out _ _ ?_ (fun hHeld2 => ?_)
      · exact Two.on (Two.drew _ _ _) hy2
      clear hK KK
      refine tk 4 (.bool true) (h := ?_)
      have hY2 := (HSf.out.on (below_drew _)).on hy2
      obtain ⟨Y3, hys, hyp⟩ := put_wd (cs := #[.pointer (some ⟨p, 0, none⟩), .pointer (some ⟨q, 0, none⟩), v0, v1, v2, v3, v4, v5, u0', u1', u2', u3', u4', u5', u6', u7', u8']) hY2.out rfl rfl HAll.out
      have hT3 : Two (w.heap.size + 1 + 1 + 1) (w.heap.size + 1 + 1 + 1) wr Y3 := Two.put hHeld2 hyp (.inl rfl)
      have HEn := Lib.hid (And.intro hyp.blk (HFin.out Y3 _ (hY2.puto hyp)))
      clear hyp hY2 hy2 HSf HFin HNm GW
      refine ready_store 5 rfl (by kernel_rfl) (by rfl) 49 _ _ (by rfl) _ _ (by rfl) (by rfl) hys hT3 ?_
      refine tk 6 (.bool true) (h := ?_)
      refine wpAnyH_done (by kernel_rfl) ?_ _
      refine NoPanic.normal ?_
      go_wp2_with fail
      exact bodyPost_ret (results_wd rfl _ _ (w.heap.size + 1 + 1 + 1) _ (.bool true) rfl rfl HEn.out.1 rfl) rfl HEn.out.2
end Go.Proofs.YtjnhcanohefjiaaGreatDoor
