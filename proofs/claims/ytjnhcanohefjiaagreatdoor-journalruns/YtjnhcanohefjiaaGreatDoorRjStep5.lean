/- The walk of the law's step: the device starts anew, and the journal is opened again. -/
import Derived.Test.YtjnhcanohefjiaaGreatDoorRjStep
namespace Go.Proofs.YtjnhcanohefjiaaGreatDoor
open Go.RowKit Go.Sort Go.Maps

theorem info3 : (Tryz.prog.info? 3).map (fun i => (i.zero, i.size, i.bytes)) = some (some (.int .i64 0), 1, 8) := by kernel_rfl
theorem step_append_ints (w : World) {ops : Array Oper} {o : Oper} {act : Act} {KK : Act → World → Prop} {Q : Exit → Act → World → Prop} {E : Prop} (hgd : o.guard = none) (s x : Operand)
    (ho : o.op = .call { callee := .builtin .append, args := #[s, x], argTypes := #[41, 41] }) (hs : act.eval s = .slice none 0 0)
    (a : Option Addr) (zs : List Int) (m c' : Nat) (hx : act.eval x = .slice a m c') (hm : zs.length = m) (hnil : a = none → c' = 0) (hin : IntsIn w a zs) (hbytes : zs.length * 8 ≤ 140737488355328)
    (hK : ∀ a' c2 w', IntsIn w' a' zs → (∀ b o, a' = some ⟨b, o, none⟩ → w.heap.size ≤ b) → Below w.heap.size w w' → KK (act.put o.dst (.slice a' m c2)) w') : if Region.wanted o (yielded ops act.tmps) = true then Oper.wp Tryz.prog o act w KK Q else E := by
  have hw : Region.wanted o (yielded ops act.tmps) = true := by simp [Region.wanted, hgd]
  rw [if_pos hw]
  obtain ⟨i0, hi, hz0, hz1, hz2⟩ := info_parts info3
  subst hm
  have hKK : ∀ a w, KK a w → KK a w := fun _ _ h => h
  have hown := World.ownsRow_nil w w.heap.size 3 1
  cases a with
  | none =>
    have hz : zs = [] := by
      cases zs with
      | nil => rfl
      | cons z r => obtain ⟨b, o, e, _⟩ := hin 0 (by simp); cases e
    subst hz
    obtain rfl := hnil rfl
    have hrun := run_append_owned_none (P := Tryz.prog) w w.heap.size 41 o.type 3 i0 1 Tryz.underlying41 hi _ _ _ hown
    unfold Oper.wp
    simp only [List.length_nil] at hx
    simp [execOp, ho, resolve, invoke, builtin, hs, hx, hrun, Result.andThen]
    exact hKK _ _ (hK none 0 w (intsIn_nil _ _) (fun b o e => by cases e) (Below.refl _ _))
  | some ad =>
    have hnews : ∀ j u, (zs.map (Value.int .i64))[j]? = some u → w.cell? (ad.add j) = some u := by
      intro j u hj
      have hl : j < zs.length := by
        rcases Nat.lt_or_ge j zs.length with h | h
        · exact h
        · rw [List.getElem?_eq_none (by simpa using h)] at hj; cases hj
      obtain ⟨b, o, e, h1⟩ := hin j hl
      cases e
      rw [Addr.add_lit, h1]
      simp [List.getElem?_map, List.getElem?_eq_getElem hl] at hj
      rw [hj]
    obtain ⟨v', w', hr, h2, h3, _⟩ := run_append_own_at (P := Tryz.prog) w w.heap.size 41 o.type 3 i0 (.int .i64 0) 1 8 Tryz.underlying41 hi hz0 hz1 hz2 rfl (by decide) _ 0 [] hown ad zs.length c' (zs.map (Value.int .i64)) (by simp) hnews (by intro u hu; obtain ⟨z, _, rfl⟩ := List.mem_map.1 hu; rfl) (by unfold maxLen; omega) (by omega) (Nat.le_refl _)
    unfold Oper.wp execOp
    simp only [ho, resolve, invoke, builtin, Sem.run_bind, Sem.run_pure, Result.andThen_ok, List.map_toArray, List.map_cons, List.map_nil, hs, hx, hr]
    refine hKK _ _ ?_
    have hB : Below w.heap.size w w' := (Below.refl _ w).grown h3 (Nat.le_refl _) (fun k hk => by simp [Value.ownBlock] at hk)
    rw [Nat.zero_add, List.nil_append] at h2
    rcases h2.2 with ⟨rfl, e⟩ | ⟨g, cap, cur, rfl, q1, q2, _, _, q5, q6⟩
    · have hz : zs = [] := List.eq_nil_of_length_eq_zero e
      subst hz
      exact hK none 0 w' (intsIn_nil _ _) (fun b o e => by cases e) hB
    · refine hK (some ⟨g, 0, none⟩) cap w' (fun i hi => ⟨g, 0, rfl, ?_⟩) (fun b o e => by cases e; exact q1) hB
      have := World.ownsRow.cellAt h2 i (by omega)
      rw [Nat.zero_add, this]
      simp [List.getElem?_map, List.getElem?_eq_getElem hi]

theorem load_pa3 {w : World} {b : Nat} {g f s : Int} {z : Nat × Nat} (h : w.heap[b]? = some (.cells #[.int .i64 g, .int .i64 f, .int .i64 s] 36 z)) : (Instr.loadAt 36 (.pointer (some ⟨b, 0, none⟩))).run Tryz.prog w = .ok (.agg #[.int .i64 g, .int .i64 f, .int .i64 s]) w :=
  load_mid h 36 0 _ _ Tryz.underlying36 rfl infoP3 rfl
theorem store_pj {w : World} {q o : Nat} {v : Value} {a : Option Addr} (hc : w.cell? ⟨q, o, none⟩ = some v) (hf : w.frozen? ⟨q, o, none⟩ = false) : (Instr.storeAt 37 (.pointer (some ⟨q, o, none⟩)) (.pointer a)).run Tryz.prog w = .ok () (w.setCell ⟨q, o, none⟩ (.pointer a)) := by
  have hs : (sizeOf 37).run Tryz.prog w = .ok 1 w := by kernel_rfl
  simp only [Instr.storeAt, Instr.sureAddr, Sem.run_bind, Sem.run_pure, Result.andThen]
  simp [storeVar, hs, Value.cells, Result.andThen, storeCells, hc, hf, go_sem]
theorem EdF.putM {w w' : World} {M : Nat → Prop} {ea : Option Addr} {ec : Nat} {es : List Nat} {b : Nat} {cs : Array Value} {t : TypeId} (h : EdF w M ea ec es) (hp : Put w b cs t w') (hb : M b) : EdF w' M ea ec es :=
  ⟨fun i hi => by
    obtain ⟨b1, o1, e, q1, q2⟩ := h.ends i hi
    refine ⟨b1, o1, e, ?_, q2⟩
    have := hp.far b1 (fun e => q2 (by rw [e]; exact hb))
    rw [← q1]
    simp [World.cell?, this], h.cap⟩
/-- No list of bytes lies in the document's parts of the law's world. -/
theorem noList_wd {w : World} {M : Nat → Prop} {x : RD} {ra : Option Addr} {rc : Nat} {J : Jr} {ea : Option Addr} {ec : Nat} {p q : Option Addr} {v0 v1 v2 v3 v4 v5 u0 u1 u2 u3 u4 u5 u6 u7 u8 : Value} (hv : rdV x ra rc = .agg #[v0, v1, v2, v3, v4, v5]) (hu : rjV J ea ec = .agg #[u0, u1, u2, u3, u4, u5, u6, u7, u8]) (hl : LstS w ra rc x.l) (he : EdF w M ea ec J.ends) : ∀ v ∈ (#[.pointer p, .pointer q, v0, v1, v2, v3, v4, v5, u0, u1, u2, u3, u4, u5, u6, u7, u8] : Array Value).toList, NoList w v := by
  intro v hm
  have hv' := hv
  have hu' := hu
  unfold rdV rdC at hv'
  unfold rjV at hu'
  injection hv' with hv'
  injection hu' with hu'
  simp only [Array.mk.injEq, List.cons.injEq, and_true] at hv' hu'
  obtain ⟨rfl, rfl, rfl, rfl, rfl, rfl⟩ := hv'
  obtain ⟨rfl, rfl, rfl, rfl, rfl, rfl, rfl, rfl, rfl⟩ := hu'
  have h1 : x.l.length = 0 ∨ ∃ b o m, ra = some ⟨b, o, none⟩ ∧ w.cell? ⟨b, o, none⟩ = some (.int .i64 m) := by
    rcases Nat.eq_zero_or_pos x.l.length with q | q
    · exact .inl q
    · obtain ⟨b, o, e, hs⟩ := hl.1 0 q
      have := hs 0 (by omega)
      simp only [Nat.zero_mul, Nat.add_zero] at this
      exact .inr ⟨b, o, _, e, this⟩
  have h2 : J.ends.length = 0 ∨ ∃ b o m, ea = some ⟨b, o, none⟩ ∧ w.cell? ⟨b, o, none⟩ = some (.int .i64 m) := by
    rcases Nat.eq_zero_or_pos J.ends.length with q | q
    · exact .inl q
    · obtain ⟨b, o, e, hs, _⟩ := he.ends 0 q
      rw [Nat.add_zero] at hs
      exact .inr ⟨b, o, _, e, hs⟩
  simp only [List.mem_cons, List.not_mem_nil, or_false] at hm
  rcases hm with rfl | rfl | rfl | rfl | rfl | rfl | rfl | rfl | rfl | rfl | rfl | rfl | rfl | rfl | rfl | rfl | rfl <;> refine ⟨fun a n c e => ?_, fun x e => ?_⟩ <;> first | (cases e; first | exact h1 | exact h2) | cases e
set_option maxRecDepth 100000 in
set_option maxHeartbeats 8000000 in
theorem step5_ {w0 w : World} {X : Nat → Prop} {p aa bb q : Nat} {d : Dev} {K : Nat} {J : Jr} {rv ev : Value} {x : RD} {ra : Option Addr} {rc : Nat} {ea : Option Addr} {ec : Nat} {a : Ar} {A : ActV} {v0 v1 v2 v3 v4 v5 u0 u1 u2 u3 u4 u5 u6 u7 u8 : Value} (h : Wd w0 w X p aa bb q d K J rv ev x ra rc ea ec a) (hA : AOk w0 A) (hE : ErrType w0) (hK : K + 24 ≤ 1000000) (hv : rdV x ra rc = .agg #[v0, v1, v2, v3, v4, v5]) (hv1 : (#[v0, v1, v2, v3, v4, v5] : Array Value).all (·.oneCell') = true) (hu : rjV J ea ec = .agg #[u0, u1, u2, u3, u4, u5, u6, u7, u8]) (hu1 : (#[u0, u1, u2, u3, u4, u5, u6, u7, u8] : Array Value).all (·.oneCell') = true) (hk : wrap64 ((IntKind.u64.wrap A.kind).tmod 7) = 5 ∧ IntKind.i64.wrap ((IntKind.u64.wrap A.kind).tmod 7) = 5) :
    Calls Tryz.prog 12 #[.agg #[.pointer (some ⟨p, 0, none⟩), .pointer (some ⟨q, 0, none⟩), v0, v1, v2, v3, v4, v5, u0, u1, u2, u3, u4, u5, u6, u7, u8], arV a, actV A] w (StTo w0 w X (Mine p aa bb q rv ev) p aa bb K a) := by
  obtain ⟨kd, at', da, dxs, dc, ca, cs, cc⟩ := A
  have HP := Lib.hid h
  have HA := Lib.hid hA
  have HE := Lib.hid hE
  have hs12 : a.s.toNat ≤ 12 := by have q1 := h.inn.2.2.2.2.1; rw [h.rs.2] at q1; omega
  have hja := h.ja
  have HOk := Lib.hid h.jn.jr.ok
  have HV := Lib.hid (And.intro hv hv1)
  have HUu := Lib.hid (And.intro hu hu1)
  obtain ⟨ag, af, az⟩ := a
  unfold actV arV
  dsimp only at hk hs12 ⊢
  generalize hn : dxs.length = n at *
  generalize hcn : cs.length = cn at *
  have HN := Lib.hid hn
  have HCN := Lib.hid hcn
  have HDL : Hid (n ≤ 140737488351232) := by
    have q : dxs.length ≤ 140737488351232 := HA.out.dl
    rw [hn] at q; exact q
  obtain ⟨W, hW⟩ : ∃ W, W = (((w.alloc (.cells #[.pointer (some ⟨p, 0, none⟩), .pointer (some ⟨q, 0, none⟩), v0, v1, v2, v3, v4, v5, u0, u1, u2, u3, u4, u5, u6, u7, u8] 49)).alloc (.cells #[.int .i64 ag, .int .i64 af, .int .i64 az] 36)).alloc (.cells #[.int .i64 kd, .int .i64 at', .slice da n dc, .slice ca cn cc] 55)).alloc (.cells #[.pointer none, .pointer none, .int .i64 0, .int .i64 0, .slice none 0 0, .bool false, .bool false, .int .i64 0, .int .i64 0, .int .i64 0, .int .i64 0, .int .u64 0, .string ⟨#[]⟩, .slice none 0 0, .int .i64 0, .int .i64 0, .int .i64 0] 49) := ⟨_, rfl⟩
  have hWf := four_at w (.cells #[.pointer (some ⟨p, 0, none⟩), .pointer (some ⟨q, 0, none⟩), v0, v1, v2, v3, v4, v5, u0, u1, u2, u3, u4, u5, u6, u7, u8] 49) (.cells #[.int .i64 ag, .int .i64 af, .int .i64 az] 36) (.cells #[.int .i64 kd, .int .i64 at', .slice da n dc, .slice ca cn cc] 55) (.cells #[.pointer none, .pointer none, .int .i64 0, .int .i64 0, .slice none 0 0, .bool false, .bool false, .int .i64 0, .int .i64 0, .int .i64 0, .int .i64 0, .int .u64 0, .string ⟨#[]⟩, .slice none 0 0, .int .i64 0, .int .i64 0, .int .i64 0] 49)
  rw [← hW] at hWf
  have HX := Lib.hid hWf
  have HW := Lib.hid hW
  clear h hA hE hn hcn hW hWf hv hu hv1 hu1
  obtain ⟨hk1, hk2⟩ := hk
  go_enter Tryz.func12, Tryz.ntmps12
  go_wp2_with (first
    | (at_builtin; rw [← HW.out]; refine wpList_append_bytes _ rfl _ _ rfl W.heap.size _ [] dxs rfl (own_nil _ _) da n dc rfl HN.out HA.out.dn (HA.out.dat.on (below_step HP.out.bw HX.out.2.2.2.2)) (by have := HA.out.dl; simp only [List.length_nil, Nat.zero_add]; exact Nat.le_trans this (by omega)) (Nat.le_refl _) ?_
       intro v1 w1 hown hgrow
       have hb1 := below_grow (Below.refl _ W) (own_nil W W.heap.size) hgrow
       have hown' : Own w1 W.heap.size v1 dxs := hown
       obtain ⟨ma, mc, hma, hmi⟩ := mine_at hown'
       rw [HN.out] at hma
       subst hma
       have HM := Lib.hid (And.intro hown' hmi)
       have HS := Lib.hid (sb_start HP.out (below_step HX.out.2.2.2.2 hb1) ((hb1.block _ (blk_lt HX.out.1)).trans HX.out.1) ((hb1.block _ (blk_lt HX.out.2.1)).trans HX.out.2.1) ((hb1.block _ (blk_lt HX.out.2.2.1)).trans HX.out.2.2.1) ((hb1.block _ (blk_lt HX.out.2.2.2.1)).trans HX.out.2.2.2.1))
       have HlW : Hid (w.heap.size + 1 + 1 + 1 < W.heap.size) := blk_lt HX.out.2.2.2.1
       obtain ⟨e0, e1, e2, e3⟩ := act_cells HS.out.ac
       have c0 : w1.cell? ⟨w.heap.size, 0, none⟩ = some (.pointer (some ⟨p, 0, none⟩)) := cell_of HS.out.wd rfl
       have c1 : w1.cell? ⟨w.heap.size, 1, none⟩ = some (.pointer (some ⟨q, 0, none⟩)) := cell_of HS.out.wd rfl
       clear hown hgrow hb1 hown' hmi)
    | fail)
  clear HW HX

  have hep : J.ep < 18446744073709551616 := HOk.out.ep
  have HRest : Hid (Rest (restartD d cs) (⟨ag, af, az⟩ : Ar)) := Rest.restart HP.out.jn.dev.ok HP.out.inn HP.out.jn.dev.lim cs
  have HRR : Hid (inR (⟨ag, af, az⟩ : Ar)) := by
    obtain ⟨i1, i2, i3, i4, i5, i6⟩ := HP.out.inn
    rw [HP.out.rs.1] at i2
    rw [HP.out.rs.2] at i5 i6
    dsimp only at i1 i2 i3 i4 i5 i6
    exact ⟨⟨by show _ ≤ ag; omega, by show ag ≤ _; omega⟩, ⟨by show _ ≤ af; omega, by show af ≤ _; omega⟩, ⟨by show _ ≤ az; omega, by show az ≤ _; omega⟩⟩
  have HU3 : Hid (u3 = .int .u64 (J.ep : Nat)) := by
    have q := HUu.out.1
    unfold rjV at q
    injection q with q1
    simp only [Array.mk.injEq, List.cons.injEq] at q1
    exact q1.2.2.2.1.symm
  have G0 : Hid (∀ V, Ext (Mine p aa bb q rv ev) (Mine p aa bb q rv ev) w1 V → V.cell? ⟨w.heap.size, 0, none⟩ = some (.pointer (some ⟨p, 0, none⟩))) := fun V hV => cell_of ((hV.block _ (blk_lt HS.out.wd) (fun m => HS.out.off _ m (HS.out.fr _ (Nat.le_refl _) (by omega)))).trans HS.out.wd) rfl
  have G3 : Hid (∀ V, Ext (Mine p aa bb q rv ev) (Mine p aa bb q rv ev) w1 V → V.cell? ⟨w.heap.size + 1 + 1, 3, none⟩ = some (.slice ca cn cc)) := fun V hV => cell_of ((hV.block _ (blk_lt HS.out.ac) (fun m => HS.out.off _ m (HS.out.fr _ (by omega) (by omega)))).trans HS.out.ac) rfl
  have HI0 : Hid (∀ V, Below w0.heap.size w0 V → IntsIn V ca cs) := fun V hV => HA.out.ints.on hV
  have hcnl : cn * 8 ≤ 140737488351232 := by have q : cs.length * 8 ≤ 140737488351232 := HA.out.cl; rw [HCN.out] at q; exact q
  have hca : ca = none → cc = 0 := HA.out.cn
  have HCA := Lib.hid hca
  clear c0 c1 e0 e1 e2 e3 hca
  refine wp_region_noPanic ?_
  refine wp_region_held_drew (S := fun V => Ext (Mine p aa bb q rv ev) (Mine p aa bb q rv ev) w1 V) (by kernel_rfl) (Ext.of_below _ (below_drew _)) (fun hHeld => ?_)
  refine tk 0 (.pointer (some ⟨w.heap.size, 0, none⟩)) (h := ?_)
  refine take_at 1 (.pointer (some ⟨p, 0, none⟩)) rfl (by kernel_rfl) (by kernel_rfl) (by kernel_rfl) (fun _ _ _ h => h) (Or.inl ⟨by rfl, ?_⟩) (by assumption) ?_
  · intro V hSV; have e0 := G0.out V hSV; go_simp
  simp only [Act.put, List.setIfInBounds_toArray, List.set_cons_zero, List.set_cons_succ]
  refine tk 2 (.slice none 0 0) (h := ?_)
  refine tk 3 (.pointer (some ⟨w.heap.size + 1 + 1, 3, none⟩)) (h := ?_)
  refine take_at 4 (.slice ca cn cc) rfl (by kernel_rfl) (by kernel_rfl) (by kernel_rfl) (fun _ _ _ h => h) (Or.inl ⟨by rfl, ?_⟩) (by assumption) ?_
  · intro V hSV; have e0 := G3.out V hSV; go_simp
  simp only [Act.put, List.setIfInBounds_toArray, List.set_cons_zero, List.set_cons_succ]
  refine wpAnyH_ready (rs := [5]) (by kernel_rfl) (by simp) ?_
  refine cons_op 5 rfl (fun KK hK => ?_) AllReadyH.nil
  refine step_append_ints _ rfl _ _ rfl rfl ca cs cn cc rfl HCN.out HCA.out (HI0.out _ (below_step HS.out.bw (below_drew _))) (by rw [HCN.out]; omega) ?_
  intro a5 c5 w5 hi5 hl5 hb5
  have hb15 : Below w1.heap.size w1 w5 := below_step (below_drew w1) hb5
  refine hK.out _ _ (Ext.of_below _ hb15) (fun hHeld5 => ?_)
  clear hK KK
  simp only [Act.put, List.setIfInBounds_toArray, List.set_cons_zero, List.set_cons_succ]
  have HRs : Hid (Calls Tryz.prog 34 #[.pointer (some ⟨p, 0, none⟩), .slice a5 cn c5] w5 fun e w' => e = .returned (.tuple #[]) ∧ DevIn w' p aa bb (restartD d cs) K ∧ Fd p aa bb w5 w') :=
    restart_ (HS.out.jn.dev.on hb15) a5 cs cn c5 HCN.out hi5 (fun b o e => by have := hl5 b o e; have := HS.out.jn.dev.lts.1; have : w1.drew.heap.size = w1.heap.size := rfl; omega) (by omega)
  refine wpAnyH_ready (rs := [6]) (by kernel_rfl) (by simp) ?_
  refine AllReadyH.cons rfl (fun KK hK => ?_) AllReadyH.nil
  go_simp
  go_wp2_with (first | (go_at_call 34; refine HRs.out.mono ?_; rintro e U1 ⟨rfl, hD1, hF1⟩))
  refine hK.out _ _ ?_ (fun hHeld6 => ?_)
  · exact Ext.trans (Ext.of_below _ hb15) (Ext.of_fd q rv ev hF1)
  clear hK KK
  have hS1 := (HS.out.on hb15).prog ((HS.out.on hb15).jn.fd hD1 hF1) (Ext.of_fd q rv ev hF1)
  have HS1 := Lib.hid hS1
  have HRf : Hid (Calls Tryz.prog 40 #[.agg #[v0, v1, v2, v3, v4, v5], .slice ca cn cc] U1 fun e w' => (∃ a' c', e = .returned (rdV (restRD x cs) a' c') ∧ LstS w' a' c' (restRD x cs).l) ∧ Below U1.heap.size U1 w') := by
    have q := rrestT (w := U1) x d ca cs cn cc hS1.ls HP.out.tie (Nat.le_trans (tie_len HP.out.tie HP.out.rs) (by decide)) (HI0.out _ hS1.bw) HCN.out
    rw [HV.out.1] at q
    exact q
  have HLr := Lib.hid (load_wr hS1.wd)
  obtain ⟨e0, e1, e2, e3⟩ := act_cells hS1.ac
  clear hS1 hD1 hF1 HRs hi5 hl5 hb5 hb15 hHeld hHeld5 hHeld6 G0 G3 HM HS
  refine wpAnyH_done (by kernel_rfl) ?_ _
  refine NoPanic.normal ?_
  go_wp2_with (first
    | (refine wpList_load_at rfl 33 _ rfl _ _ rfl HLr.out ?_)
    | fail)
  refine HRf.out.mono ?_
  rintro e U2 ⟨⟨ra', rc', rfl, hL2⟩, hb2⟩
  have HT1 := Lib.hid (tie_rest HP.out.tie cs)
  generalize restRD x cs = x1 at *
  obtain ⟨v0', v1', v2', v3', v4', v5', hv', hv1'⟩ := rd_ex x1 ra' rc'
  rw [hv']
  have hS2 := HS1.out.ref hb2 hL2 (HS1.out.ed.on hb2)
  obtain ⟨U3, hs3, hp3⟩ := store_wr hS2.wd hv1'
  have hS3 := hS2.putw hp3
  have HS3 := Lib.hid hS3
  have HSt3 := Lib.hid hs3
  have HV2 := Lib.hid hv'
  have k0 : U3.cell? ⟨w.heap.size, 0, none⟩ = some (.pointer (some ⟨p, 0, none⟩)) := cell_of hS3.wd rfl
  have k11 : U3.cell? ⟨w.heap.size, 11, none⟩ = some (.int .u64 (J.ep : Nat)) := by rw [← HU3.out]; exact cell_of hS3.wd rfl
  have HLa := Lib.hid (load_pa3 hS3.ar)
  have hopd := HRest.out.opened hep
  have hk12 : az.toNat ≤ 12 := hs12
  have HOp : Hid (Calls Tryz.prog 7 #[.pointer (some ⟨p, 0, none⟩), .agg #[.int .i64 ag, .int .i64 af, .int .i64 az], .int .u64 (J.ep : Nat)] U3 (OpenTo U3 w0.heap.size p aa bb (cleanD (⟨ag, af, az⟩ : Ar) (openJ (restartD d cs) (⟨ag, af, az⟩ : Ar) J.ep).row (restartD d cs)) (K + az.toNat) (openJ (restartD d cs) (⟨ag, af, az⟩ : Ar) J.ep))) :=
    jopen_ hS3.jn.dev ⟨hS3.jn.lo.1, hS3.jn.lo.2.1, hS3.jn.lo.2.2.1⟩ hS3.bw.size (⟨ag, af, az⟩ : Ar) HRR.out HRest.out.inn HRest.out.cr J.ep hep hopd.1 (by show K + az.toNat < _; omega)
  have HDk := Lib.hid HP.out.jn.dev.ok
  clear hS2 hS3 hs3 hp3 hL2 hb2 HS1 HRf HLr e0 e1 e2 e3 hv'
  go_wp2_with (first
    | (refine wpList_store_at rfl 33 _ _ rfl _ _ rfl rfl HSt3.out ?_)
    | (refine wpList_load_at rfl 36 _ rfl _ _ rfl HLa.out ?_)
    | fail)
  refine HOp.out.mono ?_
  rintro e U4 ⟨q', rv', ev', la, lc, rfl, hJ4, hLF, hlc, hX4⟩
  have hX4' : Ext (Mine p aa bb q rv ev) (Mine p aa bb q' rv' ev') U3 U4 := ⟨hX4.os, hX4.tape, hX4.output, hX4.size, fun k hk hn => hX4.block k hk (fun m => hn (by rcases m with e | e | e; exact .inl e; exact .inr (.inl e); exact .inr (.inr (.inl e)))), fun k hk => by
    rcases hX4.new k hk with m | m
    · exact .inl (by rcases m with e | e | e; exact .inl e; exact .inr (.inl e); exact .inr (.inr (.inl e)))
    · exact .inr m⟩
  have hS4 := HS3.out.prog hJ4 hX4'
  have HS4 := Lib.hid hS4
  have HLl := Lib.hid hLF.list
  clear k0 k11 HLa
  have k11 : U4.cell? ⟨w.heap.size, 11, none⟩ = some (.int .u64 (J.ep : Nat)) := by rw [← HU3.out]; exact cell_of hS4.wd rfl
  have HLa := Lib.hid (load_pa3 hS4.ar)
  have HLr := Lib.hid (load_wr hS4.wd)
  have HRo : Hid (Calls Tryz.prog 8 #[.agg #[v0', v1', v2', v3', v4', v5'], .agg #[.int .i64 ag, .int .i64 af, .int .i64 az], .int .u64 (J.ep : Nat)] U4 (RopTo U4 (fun k => Mine p aa bb q' rv' ev' k ∨ (X k ∨ (w.heap.size ≤ k ∧ k < w1.heap.size))) (restartD d cs) (⟨ag, af, az⟩ : Ar) J.ep)) := by
    have qq := ropen_ (w := U4) (x := x1) (al := ra') (cl := rc') ⟨hS4.ls, HT1.out, okD_restart' HDk.out cs, HP.out.rs, (Rg.rest d cs).lf HP.out.lf⟩ (⟨ag, af, az⟩ : Ar) HRest.out J.ep hep (fun k => Mine p aa bb q' rv' ev' k ∨ (X k ∨ (w.heap.size ≤ k ∧ k < w1.heap.size))) hS4.M
    rw [HV2.out] at qq
    exact qq
  have HJk := Lib.hid hJ4.jr.ok
  have HCm := Lib.hid hopd.2.1
  have HRg := Lib.hid ((Rg.rest d cs).trans (Rg.clean (⟨ag, af, az⟩ : Ar) (openJ (restartD d cs) (⟨ag, af, az⟩ : Ar) J.ep).row (restartD d cs)))
  have HJa : Hid ((openJ (restartD d cs) (⟨ag, af, az⟩ : Ar) J.ep).a = (⟨ag, af, az⟩ : Ar)) := rfl
  unfold RopTo at HRo
  clear hJ4 hLF hX4 hX4' hS4 HS3 HSt3 HOp hopd hlc HRest
  obtain ⟨J9, hJ9⟩ : ∃ J9, J9 = openJ (restartD d cs) (⟨ag, af, az⟩ : Ar) J.ep := ⟨_, rfl⟩
  rw [← hJ9] at HRo HS4 HJk HCm HRg HJa HLl ⊢
  obtain ⟨d9, hd9⟩ : ∃ d9, d9 = cleanD (⟨ag, af, az⟩ : Ar) J9.row (restartD d cs) := ⟨_, rfl⟩
  rw [← hd9] at HRo HS4 HCm HRg
  clear hd9 hJ9
  generalize hm9 : J9.pss.length = m at *
  have HM9 := Lib.hid hm9
  clear hm9
  go_wp2_with (first
    | (refine wpList_load_at rfl 33 _ rfl _ _ rfl HLr.out ?_)
    | (refine wpList_load_at rfl 36 _ rfl _ _ rfl HLa.out ?_)
    | fail)
  refine HRo.out.mono ?_
  rintro e U5 ⟨x2, ra2, rc2, ea2, ec2, la2, lc2, rfl, hL5, hT5, hEd5, hLi5, hb5⟩
  obtain ⟨v0'', v1'', v2'', v3'', v4'', v5'', hv'', hv1''⟩ := rd_ex x2 ra2 rc2
  obtain ⟨u0'', u1'', u2'', u3'', u4'', u5'', u6'', u7'', u8'', hu'', hu1'', hu3''⟩ := rj_ex J9 ea2 ec2
  clear hu3''
  rw [hv'', hu'']
  have hS5 := HS4.out.on hb5
  obtain ⟨U8, hs8, hp8⟩ := put_rj (w := (U5.alloc (.cells #[.int .i64 0, .int .i64 0, .int .i64 0, .int .u64 0, .string ⟨#[]⟩, .slice none 0 0, .int .i64 0, .int .i64 0, .int .i64 0] 43)).alloc (.cells #[.int .i64 0, .int .i64 0, .slice none 0 0, .bool false, .bool false, .int .i64 0] 33)) (b := U5.heap.size) (cs := #[u0'', u1'', u2'', u3'', u4'', u5'', u6'', u7'', u8'']) (two_at U5 _ _).1 rfl rfl hu1''
  obtain ⟨U9, hs9, hp9⟩ := put_rd (w := U8) (b := U5.heap.size + 1) (cs := #[v0'', v1'', v2'', v3'', v4'', v5'']) ((hp8.far _ (by omega)).trans (two_at U5 (.cells #[.int .i64 0, .int .i64 0, .int .i64 0, .int .u64 0, .string ⟨#[]⟩, .slice none 0 0, .int .i64 0, .int .i64 0, .int .i64 0] 43) (.cells #[.int .i64 0, .int .i64 0, .slice none 0 0, .bool false, .bool false, .int .i64 0] 33)).2.1) rfl rfl hv1''
  have hB9 : Below U5.heap.size U5 U9 := hp9.below (hp8.below (two_at U5 (.cells #[.int .i64 0, .int .i64 0, .int .i64 0, .int .u64 0, .string ⟨#[]⟩, .slice none 0 0, .int .i64 0, .int .i64 0, .int .i64 0] 43) (.cells #[.int .i64 0, .int .i64 0, .slice none 0 0, .bool false, .bool false, .int .i64 0] 33)).2.2 (Nat.le_refl _)) (by omega)
  have hb20 : U9.heap[U5.heap.size]? = some (.cells #[u0'', u1'', u2'', u3'', u4'', u5'', u6'', u7'', u8''] 43 (0, 0)) := (hp9.far _ (by omega)).trans hp8.blk
  have hb21 := hp9.blk
  have hS9 := hS5.ref hB9 (hS5.ls.on hB9) (hS5.ed.on hB9)
  have HS9 := Lib.hid hS9
  have HL9 := Lib.hid (HLl.out.on (below_step hb5 hB9))
  have HM2 := Lib.hid (hLi5.on hB9)
  have HNo := Lib.hid (noList_wd (p := some ⟨p, 0, none⟩) (q := some ⟨q, 0, none⟩) HV2.out HUu.out.1 hS9.ls hS9.ed)
  have hLt5 : w.heap.size + 1 + 1 + 1 < U5.heap.size := by have := blk_lt hS5.out; omega
  have HSt8 := Lib.hid hs8
  have HSt9 := Lib.hid hs9
  obtain ⟨B20, hB20⟩ : ∃ B20, B20 = U5.heap.size := ⟨_, rfl⟩
  rw [← hB20] at hb20 hb21 hLt5
  have GJ : Hid (∀ V, Two (w.heap.size) (w.heap.size) U9 V → (Instr.loadAt 43 (.pointer (some ⟨B20, 0, none⟩))).run Tryz.prog V = .ok (.agg #[u0'', u1'', u2'', u3'', u4'', u5'', u6'', u7'', u8'']) V) := fun V hV => load_rj (hV.at hb20 (by omega) (by omega)) rfl
  have GD : Hid (∀ V, Two (w.heap.size) (w.heap.size) U9 V → (Instr.loadAt 33 (.pointer (some ⟨B20 + 1, 0, none⟩))).run Tryz.prog V = .ok (.agg #[v0'', v1'', v2'', v3'', v4'', v5'']) V) := fun V hV => load_rd (hV.at hb21 (by omega) (by omega)) rfl
  have hw9 := (HS9.out.on (below_drew _)).wd
  have hp10 : Put U9.drew (w.heap.size) #[.pointer (some ⟨p, 0, none⟩), .pointer (some ⟨q', 0, none⟩), v0', v1', v2', v3', v4', v5', u0, u1, u2, u3, u4, u5, u6, u7, u8] 49 (U9.drew.setCell ⟨w.heap.size, 1, none⟩ (.pointer (some ⟨q', 0, none⟩))) := ⟨(by have qq := heap_set (o := 1) (.pointer (some ⟨q', 0, none⟩)) hw9; simp only [List.setIfInBounds_toArray, List.set_cons_succ, List.set_cons_zero] at qq; exact qq), fun k hk => heap_far _ hk, by simp [World.setCell], rfl, rfl, rfl⟩
  have hs10 := store_pj (w := U9.drew) (q := w.heap.size) (o := 1) (a := some ⟨q', 0, none⟩) (cell_of hw9 rfl) (frozen_of hw9)
  obtain ⟨U11, hs11, hp11⟩ := store_wj hp10.blk hu1''
  obtain ⟨U12, hs12', hp12⟩ := store_wr hp11.blk hv1''
  have hT10 : Two (w.heap.size) (w.heap.size) U9 (U9.drew.setCell ⟨w.heap.size, 1, none⟩ (.pointer (some ⟨q', 0, none⟩))) := (Two.drew _ _ _).put hp10 (.inl rfl)
  have hT11 : Two (w.heap.size) (w.heap.size) U9 U11 := hT10.put hp11 (.inl rfl)
  have hT12 : Two (w.heap.size) (w.heap.size) U9 U12 := hT11.put hp12 (.inl rfl)
  have hpA : Put U9.drew (w.heap.size) #[.pointer (some ⟨p, 0, none⟩), .pointer (some ⟨q', 0, none⟩), v0'', v1'', v2'', v3'', v4'', v5'', u0'', u1'', u2'', u3'', u4'', u5'', u6'', u7'', u8''] 49 U12 := ⟨hp12.blk, fun k hk => ((hp12.far k hk).trans (hp11.far k hk)).trans (hp10.far k hk), by rw [hp12.size, hp11.size, hp10.size], by rw [hp12.os, hp11.os, hp10.os], by rw [hp12.tape, hp11.tape, hp10.tape], by rw [hp12.output, hp11.output, hp10.output]⟩
  have hNoD : ∀ v ∈ (#[.pointer (some ⟨p, 0, none⟩), .pointer (some ⟨q, 0, none⟩), v0', v1', v2', v3', v4', v5', u0, u1, u2, u3, u4, u5, u6, u7, u8] : Array Value).toList, NoList U9.drew v := HNo.out
  have HL12 := Lib.hid ((HL9.out.on (below_drew U9)).put HJk.out.pays hw9 hNoD hpA)
  have HM12 := Lib.hid ((HM2.out.on (below_drew U9)).put HJk.out.pays hw9 hNoD hpA)
  have hS12a := (HS9.out.on (below_drew U9)).putw hpA
  have hEd12 := ((hEd5.on hB9).on (below_drew U9)).putM hpA (.inr (HS9.out.fr _ (Nat.le_refl _) (by omega)))
  have hL12 := ((hL5.on hB9).on (below_drew U9)).put hpA (by decide) ⟨_, _, hw9⟩
  have HSf := Lib.hid (hS12a.ref (Below.refl _ _) hL12 hEd12)
  have HAll := Lib.hid (wd_all (pv := .pointer (some ⟨p, 0, none⟩)) (qv := .pointer (some ⟨q', 0, none⟩)) hv1'' hu1'' rfl rfl)
  have HFin : Hid (∀ Y z, SB w0 w (fun k => X k ∨ (w.heap.size ≤ k ∧ k < w1.heap.size)) (Mine p aa bb q rv ev) Y p aa bb q' d9 (K + az.toNat) J9 rv' ev' ra2 rc2 x2.l ea2 ec2 J9.ends #[.pointer (some ⟨p, 0, none⟩), .pointer (some ⟨q', 0, none⟩), v0'', v1'', v2'', v3'', v4'', v5'', u0'', u1'', u2'', u3'', u4'', u5'', u6'', u7'', u8''] #[.int .i64 ag, .int .i64 af, .int .i64 az] #[.int .i64 kd, .int .i64 at', .slice da n dc, .slice ca cn cc] z → StTo w0 w X (Mine p aa bb q rv ev) p aa bb K (⟨ag, af, az⟩ : Ar) (.returned (.tuple #[.agg #[.pointer (some ⟨p, 0, none⟩), .pointer (some ⟨q', 0, none⟩), v0'', v1'', v2'', v3'', v4'', v5'', u0'', u1'', u2'', u3'', u4'', u5'', u6'', u7'', u8''], .bool true])) Y) := fun Y z hS => step_end hS (fun k hk => .inl hk) hT5 ⟨HRg.out.r.trans HP.out.rs.1, HRg.out.s.trans HP.out.rs.2⟩ (HRg.out.lf HP.out.lf) HJa.out (HRg.out.inn HP.out.inn) (fun _ => HCm.out) hv'' hu'' (by omega) (by omega)
  have hml : m ≤ 10000000 := by have := HJk.out.count; have := HM9.out; omega
  have HLs : Hid (∀ V, Below U12.heap.size U12 V → Calls Tryz.prog 11 #[.slice la m lc, .slice la2 m lc2] V fun e w' => e = .returned (.bool true) ∧ Below V.heap.size V w') := fun V hV => lists_ la la2 J9.pss m lc lc2 V HM9.out hml (HL12.out.on hV) (HM12.out.on hV)
  clear hS12a hEd12 hL12 hpA hNoD hw9 hp10 hp11 hp12 hb20 hb21 hS9 hS5 hp8 hp9 hs8 hs9 hB9 hb5 hLi5 hEd5 hT5 hL5 hv'' hu'' hv1'' hu1'' HS4 HLl HRo HLa HLr k11 HL9 HM2 HNo HL12 HM12 HS9 HJk HCm HRg HJa
  go_wp2_with (first
    | (refine wpList_store_at rfl 43 _ _ rfl _ _ rfl rfl HSt8.out ?_)
    | (refine wpList_store_at rfl 33 _ _ rfl _ _ rfl rfl HSt9.out ?_)
    | fail)
  rw [← hB20]
  clear hB20 HSt8 HSt9
  refine wp_region_noPanic ?_
  refine wp_region_held_drew (S := fun V => Two (w.heap.size) (w.heap.size) U9 V) (by kernel_rfl) (Two.drew _ _ _) (fun hHeld => ?_)
  refine tk 0 (.pointer (some ⟨q', 0, none⟩)) (h := ?_)
  refine tk 1 (.agg #[u0'', u1'', u2'', u3'', u4'', u5'', u6'', u7'', u8'']) (hy := (yields_load (by rfl) 43 _ (by rfl) _ _ (by rfl) (GJ.out))) (h := ?_)
  refine tk 2 (.agg #[v0'', v1'', v2'', v3'', v4'', v5'']) (hy := (yields_load (by rfl) 33 _ (by rfl) _ _ (by rfl) (GD.out))) (h := ?_)
  refine tk 3 (.pointer (some ⟨w.heap.size, 1, none⟩)) (h := ?_)
  refine ready_store 4 rfl (by kernel_rfl) (by rfl) 37 _ _ (by rfl) _ _ (by rfl) (by rfl) hs10 hT10 ?_
  refine tk 5 (.pointer (some ⟨w.heap.size, 8, none⟩)) (h := ?_)
  refine ready_store 6 rfl (by kernel_rfl) (by rfl) 43 _ _ (by rfl) _ _ (by rfl) (by rfl) hs11 hT11 ?_
  refine tk 7 (.pointer (some ⟨w.heap.size, 2, none⟩)) (h := ?_)
  refine ready_store 8 rfl (by kernel_rfl) (by rfl) 33 _ _ (by rfl) _ _ (by rfl) (by rfl) hs12' hT12 ?_
  refine wpAnyH_done (by kernel_rfl) ?_ _
  refine NoPanic.normal ?_
  clear hs10 hs11 hs12' hT10 hT11 hT12 GJ GD hHeld
  go_wp2_with fail
  have GW : Hid (∀ V, Two (w.heap.size + 1 + 1 + 1) (w.heap.size + 1 + 1 + 1) U12 V → (Instr.loadAt 49 (.pointer (some ⟨w.heap.size, 0, none⟩))).run Tryz.prog V = .ok (.agg #[.pointer (some ⟨p, 0, none⟩), .pointer (some ⟨q', 0, none⟩), v0'', v1'', v2'', v3'', v4'', v5'', u0'', u1'', u2'', u3'', u4'', u5'', u6'', u7'', u8'']) V) := fun V hV => load_wd (hV.at HSf.out.wd (by omega) (by omega)) rfl
  refine wp_region_noPanic ?_
  refine wp_region_held_drew (S := fun V => Two (w.heap.size + 1 + 1 + 1) (w.heap.size + 1 + 1 + 1) U12 V) (by kernel_rfl) (Two.drew _ _ _) (fun hHeld => ?_)
  refine tk 0 (.agg #[.pointer (some ⟨p, 0, none⟩), .pointer (some ⟨q', 0, none⟩), v0'', v1'', v2'', v3'', v4'', v5'', u0'', u1'', u2'', u3'', u4'', u5'', u6'', u7'', u8'']) (hy := (yields_load (by rfl) 49 _ (by rfl) _ _ (by rfl) (GW.out))) (h := ?_)
  refine tk 1 (.nilIface) (h := ?_)
  refine tk 2 (.bool true) (h := ?_)
  refine tk 3 (.bool true) (h := ?_)
  refine tk 4 (.int .i64 0) (h := ?_)
  refine tk 5 (.bool true) (h := ?_)
  refine tk 6 (.bool true) (h := ?_)
  refine tk 7 (.bool true) (h := ?_)
  refine tk 8 (.pointer (some ⟨q', 0, none⟩)) (h := ?_)
  refine tk 9 (.bool true) (h := ?_)
  refine tk 10 (.bool true) (h := ?_)
  refine tk 11 (.bool true) (h := ?_)
  refine tk 12 (.slice la m lc) (h := ?_)
  refine tk 13 (.slice la2 m lc2) (h := ?_)
  refine wpAnyH_ready (rs := [14]) (by kernel_rfl) (by simp) ?_
  refine AllReadyH.cons rfl (fun KK hK => ?_) AllReadyH.nil
  go_simp
  go_wp2_with (first | (go_at_call 11; refine (HLs.out _ (below_drew _)).mono ?_; rintro e Y2 ⟨rfl, hy2⟩))
  refine hK.out _ _ ?_ (fun hHeld14 => ?_)
  · exact Two.on (Two.drew _ _ _) hy2
  clear hK KK
  refine tk 15 (.bool true) (h := ?_)
  have hY2 := (HSf.out.on (below_drew _)).on hy2
  obtain ⟨Y3, hys, hyp⟩ := put_wd (cs := #[.pointer (some ⟨p, 0, none⟩), .pointer (some ⟨q', 0, none⟩), v0'', v1'', v2'', v3'', v4'', v5'', u0'', u1'', u2'', u3'', u4'', u5'', u6'', u7'', u8'']) hY2.out rfl rfl HAll.out
  have hT3 : Two (w.heap.size + 1 + 1 + 1) (w.heap.size + 1 + 1 + 1) U12 Y3 := Two.put hHeld14 hyp (.inl rfl)
  have HEn := Lib.hid (And.intro hyp.blk (HFin.out Y3 _ (hY2.puto hyp)))
  clear hyp hY2 hy2 HSf HFin HLs GW
  refine ready_store 16 rfl (by kernel_rfl) (by rfl) 49 _ _ (by rfl) _ _ (by rfl) (by rfl) hys hT3 ?_
  refine tk 17 (.bool true) (h := ?_)
  refine wpAnyH_done (by kernel_rfl) ?_ _
  refine NoPanic.normal ?_
  go_wp2_with fail
  exact bodyPost_ret (results_wd rfl _ _ (w.heap.size + 1 + 1 + 1) _ (.bool true) rfl rfl HEn.out.1 rfl) rfl HEn.out.2
end Go.Proofs.YtjnhcanohefjiaaGreatDoor
