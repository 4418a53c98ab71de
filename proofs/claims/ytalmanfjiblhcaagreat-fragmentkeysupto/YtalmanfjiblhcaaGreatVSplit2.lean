/- node.splitChild at a node with children. -/
import Derived.Test.YtalmanfjiblhcaaGreatJ13
namespace Go.Proofs.YtalmanfjiblhcaaGreat
open Go.RowKit Go.Sort
set_option maxRecDepth 100000 in
set_option maxHeartbeats 2000000 in
theorem split_inner {w : World} {M : Nat → Option Nd} {q c : Nat} {n nc : Nd} {I1 I2 : List It} {K1 K2 : List Nat} {J1 J2 : List It} {y : It} {C1 C2 : List Nat} (h : Store w M) (hq : M q = some n) (hc : M c = some nc) (hqc : q ≠ c)
 (hI : n.its = I1 ++ I2) (hK : n.ks = K1 ++ c :: K2) (hIK : I1.length = K1.length) (hn : n.its.length ≤ 1000) (hn2 : n.ks.length ≤ 1000) (hJ : nc.its = J1 ++ y :: J2) (hJ1 : J1.length = 4) (hJ2 : J2.length = 3) (hks : nc.ks = C1 ++ C2) (hC1 : C1.length = 5) (hC2 : C2.length = 4) :
 Calls Tryz.prog 116 #[.pointer (some ⟨q, 0, none⟩), .int .i64 I1.length] w (SplitTo w M q c (I1 ++ y :: I2) K1 K2 J1 C1 J2 C2) := by
 obtain ⟨gq, cq, hqcv, hgq, hkc, _, hcq63⟩ := h.kid hq hK
 obtain ⟨gc, cc, hciv, hgc, hy1, hy2, _, _, hcc63⟩ := h.item hc hJ
 have hkl9 : nc.ks.length = 9 := by rw [hks]; simp; omega
 obtain ⟨gk, ck, _, hccv, hgk, hk9, hk9m, _⟩ := row_open (h.ks c nc hc) (by omega)
 rw [hkl9] at hccv hk9
 have hck63 : ck ≤ 9223372036854775807 := by unfold maxLen at hk9m; omega
 have hck5 : ¬ ck = 5 := by omega
 obtain ⟨aq, cqi, hqiv, _⟩ := row_shape (h.its q n hq)
 obtain ⟨q0, q1, _, _⟩ := h.cells hq
 obtain ⟨c0, c1, _, _⟩ := h.cells hc
 rw [hqcv, ← hIK] at q1
 rw [hciv, hJ1, hJ2] at c0
 rw [hccv] at c1
 rw [← hIK] at hkc
 rw [hJ1] at hy1 hy2
 have hnl : n.its.length = I1.length + I2.length := by rw [hI]; simp
 have hkl : n.ks.length = I1.length + K2.length + 1 := by rw [hK, hIK]; simp; omega
 have hql := h.node_lt hq
 have hcl := h.node_lt hc
 have hrow : RowI w (.slice (some ⟨gc, 0, none⟩) 8 cc) nc.its := by have := h.its c nc hc; rw [hciv, hJ1, hJ2] at this; exact this
 have hJl : nc.its.length = 8 := by rw [hJ]; simp; omega
 have hcc5 : ¬ cc = 5 := by
  obtain ⟨_, _, e, _, _, h8, _⟩ := row_shape hrow
  simp only [Value.slice.injEq] at e
  omega
 have hsrc : ∀ j u, (cI J2)[j]? = some u → w.cell? ⟨gc, 10 + j, none⟩ = some u := fun j u hj => by
  unfold RowI at hrow
  rw [hJl] at hrow
  have hjl : j < (cI J2).length := (List.getElem?_eq_some_iff.1 hj).1
  rw [cI_len, hJ2] at hjl
  rw [hrow.cellAt (10 + j) (by omega), hJ, show J1 ++ y :: J2 = (J1 ++ [y]) ++ J2 by simp, cI_append, List.getElem?_append_right (by rw [cI_len]; simp; omega), cI_len, ← hj]
  congr 1
  simp; omega
 have HC : Hid (Calls Tryz.prog 141 #[.slice (some ⟨gc, 10, none⟩) 3 (cc - 5)] w fun e V1 => ∃ g1 c1 r X1, e = .returned (.slice (some ⟨g1, 0, none⟩) 3 c1) ∧ Hid (∀ (a : Act) (o : Oper) (y : Operand), o.op = .box 204 y → a.eval y = .agg #[.slice (some ⟨g1, 0, none⟩) 3 c1, .slice none 0 0] → (execOp a.eval o).run Tryz.prog V1 = .ok (.value (.pointer (some ⟨r, 0, none⟩))) X1) ∧ X1.cell? ⟨c, 1, none⟩ = some (.slice (some ⟨gk, 0, none⟩) 9 ck) ∧ Hid (w.heap.size ≤ r ∧ Store X1 (upd M r ⟨J2, [], .slice (some ⟨g1, 0, none⟩) 3 c1, .slice none 0 0⟩) ∧ Ext (Own M) (Own (upd M r ⟨J2, [], .slice (some ⟨g1, 0, none⟩) 3 c1, .slice none 0 0⟩)) w X1)) := by
  refine (cloI_ gc 10 3 (cc - 5) (cI J2) (by omega) (by omega) (by rw [cI_len, hJ2]) hsrc (cI_one _)).mono ?_
  rintro e V1 ⟨g1, c1, hg1, rfl, hr1, hb1⟩
  have hbl := below_step hb1 (below_alloc V1 (.cells #[.slice (some ⟨g1, 0, none⟩) 3 c1, .slice none 0 0] 204))
  refine ⟨g1, c1, V1.heap.size, V1.alloc (.cells #[.slice (some ⟨g1, 0, none⟩) 3 c1, .slice none 0 0] 204), rfl, fun a o y h1 h2 => run_boxN V1 a o y _ _ h1 h2, ?_, hb1.size, ?_⟩
  · have := (h.on hbl).cells hc
    rw [this.2.1, hccv]
  · refine h.add (n := ⟨J2, [], .slice (some ⟨g1, 0, none⟩) 3 c1, .slice none 0 0⟩) hbl hb1.size (new_blk _ _) ?_ (World.ownsRow_nil _ _ _ _) (fun k e => ?_) (fun k e => by cases e)
    · unfold RowI
      rw [hJ2]
      exact row_on hr1 (below_alloc _ _)
    · simp only [Value.ownBlock, Option.some.injEq] at e
      omega
 have w1 := wraps_i64 ((I1.length : Int) + 1) (by omega) (by omega)
 have H0 := Lib.hid h
 have HQ := Lib.hid hq
 have HCC := Lib.hid hc
 have hk1 : ((I1.length : Int) + 1) = ((K1 ++ [c]).length : Nat) := by simp; omega
 have HK1 := Lib.hid hk1
 have HIV : Hid (nc.iv = .slice (some ⟨gc, 0, none⟩) 8 cc) := by show nc.iv = _; rw [hciv, hJ1, hJ2]
 have HCV := Lib.hid hqcv
 clear h hq hc hrow hsrc hk1 hciv hqcv hy1 hy2
 have hqi : (I1.length : Int) < (I1.length : Int) + (K2.length : Int) + 1 := by omega
 obtain ⟨i1, hi1⟩ : ∃ i1, i1 = I1.length := ⟨_, rfl⟩
 obtain ⟨k2, hk2⟩ : ∃ k2, k2 = K2.length := ⟨_, rfl⟩
 have HI1 := Lib.hid hi1
 rw [← hi1] at hkc q1 w1 hqi HK1 hnl hkl ⊢
 rw [← hk2] at q1 hqi hkl
 unfold pt at hkc
 have HCV2 : Hid (n.cv = .slice (some ⟨gq, 0, none⟩) (i1 + k2 + 1) cq) := by show _ = _; rw [HCV.out, hi1, hk2, hIK]
 have HP := Lib.hid (And.intro hI (And.intro hK (And.intro hIK (And.intro hJ (And.intro hJ1 (And.intro hJ2 (And.intro hn hn2)))))))
 have HQI := Lib.hid hqiv
 have HKS := Lib.hid (And.intro hks (And.intro hC1 hC2))
 have HKV := Lib.hid hccv
 clear hi1 hk2 hccv hI hK hIK hJ hJ1 hJ2 hn hn2 hnl hkl hqiv hks hJl hqi hC1 hC2 hkl9 hgk hk9 hk9m
 go_enter Tryz.func116, Tryz.ntmps116
 have HC2 : Hid (∀ X1 M0 r nr0, Store X1 M0 → M0 c = some nc → M0 r = some nr0 → nr0.cv = .slice none 0 0 → Calls Tryz.prog 142 #[.slice (some ⟨gk, 5, none⟩) 4 (ck - 5)] X1 fun e V => ∃ g2 c2 X2, e = .returned (.slice (some ⟨g2, 0, none⟩) 4 c2) ∧ (Instr.storeAt 202 (.pointer (some ⟨r, 1, none⟩)) (.slice (some ⟨g2, 0, none⟩) 4 c2)).run Tryz.prog V = .ok () X2 ∧ Hid (Store X2 (upd M0 r { nr0 with cv := .slice (some ⟨g2, 0, none⟩) 4 c2, ks := C2 }) ∧ Ext (Own M0) (Own (upd M0 r { nr0 with cv := .slice (some ⟨g2, 0, none⟩) 4 c2, ks := C2 })) X1 X2)) := by
  intro X1 M0 r nr0 h hc hr hv
  obtain ⟨hks, hC1, hC2⟩ := HKS.out
  have hrow : X1.ownsRow 0 196 1 (.slice (some ⟨gk, 0, none⟩) 9 ck) 9 (cP nc.ks) := by
   have := h.ks c nc hc
   unfold RowP at this
   rw [HKV.out, show nc.ks.length = 9 by rw [hks]; simp; omega] at this
   exact this
  have hsrc : ∀ j u, (cP C2)[j]? = some u → X1.cell? ⟨gk, 5 + j, none⟩ = some u := fun j u hj => by
   have hjl : j < (cP C2).length := (List.getElem?_eq_some_iff.1 hj).1
   rw [cP_len, hC2] at hjl
   rw [hrow.cellAt (5 + j) (by omega), hks, cP_append, List.getElem?_append_right (by rw [cP_len]; omega), cP_len, ← hj]
   congr 1
   omega
  refine (cloP_ gk 5 4 (ck - 5) (cP C2) (by omega) (by omega) (by rw [cP_len, hC2]) hsrc (cP_one _)).mono ?_
  rintro e V ⟨g2, c2, hg2, rfl, hr2, hb2⟩
  have hrr : RowP V (.slice (some ⟨g2, 0, none⟩) 4 c2) C2 := by unfold RowP; rw [hC2]; exact hr2
  obtain ⟨a, m, c3, X2, e1, hst, s1, s2⟩ := putP_of h hr (V1 := V) (grown_below _ hb2) hrr (fun k e => by
   simp only [Value.ownBlock, Option.some.injEq] at e
   exact .inr (by omega))
  cases e1
  exact ⟨g2, c2, X2, rfl, hst, s1, s2⟩
 go_wp2_with (first
  | (go_at_call 141; refine HC.out.mono ?_; rintro e V1 ⟨g1, c1', r, X1, rfl, HB, hw1, HS⟩)
  | (refine wpList_exec rfl (HB.out _ _ _ rfl rfl) ?_; have HC3 := Lib.hid (HC2.out X1 _ r _ HS.out.2.1 ((upd_other _ _ (show c ≠ r by have := HS.out.1; omega)).trans HCC.out) (upd_self _ _ _) rfl))
  | (go_at_call 142; refine HC3.out.mono ?_; rintro e X1' ⟨g2, c2, X2, rfl, hst2, HS2⟩)
  | (refine wpList_store_at rfl _ _ _ rfl _ _ rfl rfl hst2 ?_)
  | fail)
 obtain ⟨M2, hM2⟩ : ∃ M2, M2 = upd (upd M r ⟨J2, [], .slice (some ⟨g1, 0, none⟩) 3 c1', .slice none 0 0⟩) r ⟨J2, C2, .slice (some ⟨g1, 0, none⟩) 3 c1', .slice (some ⟨g2, 0, none⟩) 4 c2⟩ := ⟨_, rfl⟩
 have HD : Hid (q ≠ c ∧ q ≠ r ∧ c ≠ r ∧ w.heap.size ≤ r) := by
  have := HS.out.1
  exact ⟨hqc, by omega, by omega, this⟩
 have HS3 : Hid (Store X2 M2 ∧ Ext (Own M) (Own M2) w X2) := by rw [hM2]; exact ⟨HS2.out.1, HS.out.2.2.trans HS2.out.2⟩
 have HM2 : Hid (M2 r = some ⟨J2, C2, .slice (some ⟨g1, 0, none⟩) 3 c1', .slice (some ⟨g2, 0, none⟩) 4 c2⟩ ∧ ∀ k, k ≠ r → M2 k = M k) := by
  refine ⟨by rw [hM2]; exact upd_self _ _ _, fun k hk => by rw [hM2, upd_other _ _ hk, upd_other _ _ hk]⟩
 have HC4 : Hid (M2 c = some nc) := (HM2.out.2 c HD.out.2.2.1).trans HCC.out
 clear hM2 HS2 HS hst2 HC3 HC2 HC hw1
 have F1 : Hid (∀ V, Below X2.heap.size X2 V → V.cell? ⟨c, 1, none⟩ = some (.slice (some ⟨gk, 0, none⟩) 9 ck)) := fun V hV => by
  rw [((HS3.out.1.on hV).cells HC4.out).2.1, HKV.out]
 have HIn : Hid (Calls Tryz.prog 143 #[.slice (some ⟨gk, 0, none⟩) 9 ck, .int .i64 5, .int .i64 9] X2.drew fun e V1 => ∃ a m c' V2, e = .returned (.slice a m c') ∧ (Instr.storeAt 202 (.pointer (some ⟨c, 1, none⟩)) (.slice a m c')).run Tryz.prog V1 = .ok () V2 ∧ Hid (Store V2 (upd M2 c { nc with cv := .slice a m c', ks := C1 ++ [] }) ∧ Ext (Own M) (Own (upd M2 c { nc with cv := .slice a m c', ks := C1 ++ [] })) w V2)) := by
  obtain ⟨hks, hC1, hC2⟩ := HKS.out
  have hh := delP_node HS3.out.1.drew HC4.out (l1 := C1) (l2 := C2) (l3 := []) (by rw [hks]; simp) (fun e => by rw [e] at hC2; cases hC2) (by rw [hks]; simp; omega)
  rw [hC1, hC2, HKV.out] at hh
  refine hh.mono ?_
  rintro e V1 ⟨v', rfl, a, m, c', V2, rfl, hst, s1, s2⟩
  exact ⟨a, m, c', V2, rfl, hst, s1, (HS3.out.2.trans (Ext.of_below _ (below_drew X2))).trans s2⟩
 have w5 := wraps_i64 5 (by omega) (by omega)
 refine wp_region_noPanic ?_
 refine region_ph (A := fun _ => True) (e1 := 12) (B := (fun V => Below X2.heap.size X2 V)) (e2 := 12) (C := (fun _ => True)) (by kernel_rfl) (⟨trivial, fun _ => below_drew X2, fun _ => trivial⟩) (fun hSt => ?_)
 refine take_ph 0 (.pointer (some ⟨c, 0, none⟩)) [] rfl (by kernel_rfl) (fun _ _ _ h => h) (Or.inl ⟨by rfl, ?_⟩) hSt (fun hSn => ?_)
 · intro V _; go_simp
 clear hSt; rename Ph _ _ _ _ _ _ _ => hSt; simp only [Act.put, prw]
 refine take_ph 1 (.pointer (some ⟨c, 0, none⟩)) [] rfl (by kernel_rfl) (fun _ _ _ h => h) (Or.inl ⟨by rfl, ?_⟩) hSt (fun hSn => ?_)
 · intro V _; go_simp
 clear hSt; rename Ph _ _ _ _ _ _ _ => hSt; simp only [Act.put, prw]
 refine take_ph 2 (.pointer (some ⟨c, 0, none⟩)) [] rfl (by kernel_rfl) (fun _ _ _ h => h) (Or.inl ⟨by rfl, ?_⟩) hSt (fun hSn => ?_)
 · intro V _; go_simp
 clear hSt; rename Ph _ _ _ _ _ _ _ => hSt; simp only [Act.put, prw]
 refine take_ph 3 (.pointer (some ⟨c, 1, none⟩)) [] rfl (by kernel_rfl) (fun _ _ _ h => h) (Or.inl ⟨by rfl, ?_⟩) hSt (fun hSn => ?_)
 · intro V _; go_simp
 clear hSt; rename Ph _ _ _ _ _ _ _ => hSt; simp only [Act.put, prw]
 refine take_ph 4 (.slice (some ⟨gk, 0, none⟩) 9 ck) [12] rfl (by kernel_rfl) (fun _ _ _ h => h) (Or.inl ⟨by rfl, ?_⟩) hSt (fun hSn => ?_)
 · rintro V ⟨_, hB, hC⟩; have hh := hB (by decide); have e0 := F1.out V hh; clear hB hC; go_simp
 clear hSt; rename Ph _ _ _ _ _ _ _ => hSt; simp only [Act.put, prw]
 refine take_ph 5 (.int .i64 4) [] rfl (by kernel_rfl) (fun _ _ _ h => h) (Or.inl ⟨by rfl, ?_⟩) hSt (fun hSn => ?_)
 · intro V _; go_simp
 clear hSt; rename Ph _ _ _ _ _ _ _ => hSt; simp only [Act.put, prw]
 refine take_ph 6 (.int .i64 5) [] rfl (by kernel_rfl) (fun _ _ _ h => h) (Or.inl ⟨by rfl, ?_⟩) hSt (fun hSn => ?_)
 · intro V _; go_simp
 clear hSt; rename Ph _ _ _ _ _ _ _ => hSt; simp only [Act.put, prw]
 refine take_ph 7 (.pointer (some ⟨c, 0, none⟩)) [] rfl (by kernel_rfl) (fun _ _ _ h => h) (Or.inl ⟨by rfl, ?_⟩) hSt (fun hSn => ?_)
 · intro V _; go_simp
 clear hSt; rename Ph _ _ _ _ _ _ _ => hSt; simp only [Act.put, prw]
 refine take_ph 8 (.pointer (some ⟨c, 0, none⟩)) [] rfl (by kernel_rfl) (fun _ _ _ h => h) (Or.inl ⟨by rfl, ?_⟩) hSt (fun hSn => ?_)
 · intro V _; go_simp
 clear hSt; rename Ph _ _ _ _ _ _ _ => hSt; simp only [Act.put, prw]
 refine take_ph 9 (.pointer (some ⟨c, 1, none⟩)) [] rfl (by kernel_rfl) (fun _ _ _ h => h) (Or.inl ⟨by rfl, ?_⟩) hSt (fun hSn => ?_)
 · intro V _; go_simp
 clear hSt; rename Ph _ _ _ _ _ _ _ => hSt; simp only [Act.put, prw]
 refine take_ph 10 (.slice (some ⟨gk, 0, none⟩) 9 ck) [11, 12] rfl (by kernel_rfl) (fun _ _ _ h => h) (Or.inl ⟨by rfl, ?_⟩) hSt (fun hSn => ?_)
 · rintro V ⟨_, hB, hC⟩; have hh := hB (by decide); have e0 := F1.out V hh; clear hB hC; go_simp
 clear hSt; rename Ph _ _ _ _ _ _ _ => hSt; simp only [Act.put, prw]
 refine take_ph 11 (.int .i64 9) [] rfl (by kernel_rfl) (fun _ _ _ h => h) (Or.inl ⟨by rfl, ?_⟩) hSt (fun hSn => ?_)
 · intro V _; go_simp
 clear hSt; rename Ph _ _ _ _ _ _ _ => hSt; simp only [Act.put, prw]
 refine ready_call_ph 12 rfl (by kernel_rfl) (fun KK hK => ?_)
 go_simp
 go_wp2_with (first | (go_at_call 143; refine HIn.out.mono ?_; rintro e X3 ⟨a7, m7, c7, W1, rfl, hst8, HS8⟩))
 refine hK.out _ _ ?_ (fun hSn => ?_)
 · exact ⟨trivial, fun h => absurd (show true = false from h) (by decide), fun _ => trivial⟩
 clear hK KK hSt; rename Ph _ _ _ _ _ _ _ => hSt
 refine take_ph 13 (.pointer (some ⟨c, 0, none⟩)) [] rfl (by kernel_rfl) (fun _ _ _ h => h) (Or.inl ⟨by rfl, ?_⟩) hSt (fun hSn => ?_)
 · intro V _; go_simp
 clear hSt; rename Ph _ _ _ _ _ _ _ => hSt; simp only [Act.put, prw]
 refine take_ph 14 (.pointer (some ⟨c, 1, none⟩)) [] rfl (by kernel_rfl) (fun _ _ _ h => h) (Or.inl ⟨by rfl, ?_⟩) hSt (fun hSn => ?_)
 · intro V _; go_simp
 clear hSt; rename Ph _ _ _ _ _ _ _ => hSt; simp only [Act.put, prw]
 refine ready_store_ph 15 rfl (by kernel_rfl) rfl 202 _ _ rfl _ _ rfl rfl (hst8) (⟨trivial, fun h => absurd (show true = false from h) (by decide), fun _ => trivial⟩) (fun hSn => ?_)
 clear hSt; rename Ph _ _ _ _ _ _ _ => hSt
 simp only [Act.put]
 refine done_ph (by kernel_rfl) ?_ _
 clear hSt
 refine NoPanic.normal ?_
 clear F1 HIn hst8
 go_wp2_with fail
 obtain ⟨ncx, hncx⟩ : ∃ ncx : Nd, ncx = { nc with cv := .slice a7 m7 c7, ks := C1 ++ [] } := ⟨_, rfl⟩
 rw [← hncx] at HS8
 obtain ⟨M1, hM1⟩ : ∃ M1, M1 = upd M2 c ncx := ⟨_, rfl⟩
 rw [← hM1] at HS8
 have HS1 : Hid (Store W1 M1) := HS8.out.1
 have HE1 : Hid (Ext (Own M) (Own M1) w W1) := HS8.out.2
 have HQ1 : Hid (M1 q = some n) := by show M1 q = _; rw [hM1]; exact (upd_other _ _ HD.out.1).trans ((HM2.out.2 q HD.out.2.1).trans HQ.out)
 have HC1 : Hid (M1 c = some ncx) := by show M1 c = _; rw [hM1]; exact upd_self _ _ _
 have HX : Hid (ncx.its = nc.its ∧ ncx.iv = nc.iv ∧ ncx.ks = C1) := by rw [hncx]; exact ⟨rfl, rfl, List.append_nil _⟩
 have HR1 : Hid (∃ nr, M1 r = some nr ∧ nr.its = J2 ∧ nr.ks = C2) := by rw [hM1]; exact ⟨_, (upd_other _ _ (Ne.symm HD.out.2.2.1)).trans HM2.out.1, rfl, rfl⟩
 have HRe : Hid (∀ k, k ≠ q → k ≠ c → k ≠ r → M1 k = M k) := by rw [hM1]; exact fun k _ h2 h3 => (upd_other _ _ h2).trans (HM2.out.2 k h3)
 clear hM1 hncx HS8 HS3 HM2 HC4
 obtain ⟨nl, hnl'⟩ : ∃ nl, nl = n.its.length := ⟨_, rfl⟩
 have F1 : Hid (∀ V, Below W1.heap.size W1 V → V.cell? ⟨q, 0, none⟩ = some (.slice aq nl cqi)) := fun V hV => by
  rw [((HS1.out.on hV).cells HQ1.out).1, HQI.out, hnl']
 have F2 : Hid (∀ V, Below W1.heap.size W1 V → V.cell? ⟨c, 0, none⟩ = some (.slice (some ⟨gc, 0, none⟩) 8 cc)) := fun V hV => by
  rw [((HS1.out.on hV).cells HC1.out).1, HX.out.2.1, HIV.out]
 have F3 : Hid (∀ V, Below W1.heap.size W1 V → V.cell? ⟨gc, 8, none⟩ = some (.string y.1) ∧ V.cell? ⟨gc, 9, none⟩ = some (.slice y.2.a y.2.n y.2.c)) := fun V hV => by
  obtain ⟨_, _, _, hJ, hJ1, _⟩ := HP.out
  obtain ⟨g', c', e1, _, e2, e3, _, _, e4⟩ := (HS1.out.on hV).item HC1.out (HX.out.1.trans hJ)
  rw [hJ1, HX.out.2.1, HIV.out] at e1
  simp only [Value.slice.injEq, Option.some.injEq, Addr.mk.injEq] at e1
  obtain ⟨⟨rfl, _⟩, _⟩ := e1
  rw [hJ1] at e2 e3
  exact ⟨e2, e3⟩
 obtain ⟨U1, hU1⟩ : ∃ U, U = W1.drew.alloc (.cells (cI [y]).toArray 200) := ⟨_, rfl⟩
 have HB2 : Hid (Below W1.heap.size W1 U1) := by show Below _ _ _; rw [hU1]; exact below_step (below_drew W1) (below_alloc W1.drew _)
 have hrb : Hid (∀ (a : Act) (o : Oper) (z : Operand), o.op = .buildSlice 201 1 #[(0, z)] → a.eval z = itV y → (execOp a.eval o).run Tryz.prog W1.drew = .ok (.value (.slice (some ⟨W1.heap.size, 0, none⟩) 1 1)) U1) := fun a o z h1 h2 => by rw [hU1]; exact run_buildI W1.drew y a o z h1 h2
 have HIn : Hid (Calls Tryz.prog 140 #[.slice aq nl cqi, .int .i64 i1, .slice (some ⟨W1.heap.size, 0, none⟩) 1 1] U1 fun e V1 => ∃ a m c V2, e = .returned (.slice a m c) ∧ (Instr.storeAt 201 (.pointer (some ⟨q, 0, none⟩)) (.slice a m c)).run Tryz.prog V1 = .ok () V2 ∧ Hid (Store V2 (upd M1 q { n with iv := .slice a m c, its := I1 ++ y :: I2 }) ∧ Ext (Own M1) (Own (upd M1 q { n with iv := .slice a m c, its := I1 ++ y :: I2 })) W1 V2)) := by
  obtain ⟨hI, _, _, _, _, _, hn, _⟩ := HP.out
  have hub : U1.heap[W1.heap.size]? = some (.cells (cI [y]).toArray 200 (0, 0)) := by rw [hU1]; exact new_blk W1.drew _
  have hh := insI_node (HS1.out.on HB2.out) HQ1.out hI hn (x := y) hub (HS1.out.not_own (Nat.le_refl _))
  rw [← HI1.out, HQI.out, ← hnl'] at hh
  refine hh.mono ?_
  rintro e V1 ⟨v', rfl, a, m, c, V2, rfl, hst, s1, s2⟩
  exact ⟨a, m, c, V2, rfl, hst, s1, (Ext.of_below _ HB2.out).trans s2⟩
 clear hnl' hU1
 refine wp_region_noPanic ?_
 refine region_ph (A := fun _ => True) (e1 := 14) (B := (fun V => Below W1.heap.size W1 V)) (e2 := 14) (C := (fun _ => True)) (by kernel_rfl) (⟨trivial, fun _ => below_drew W1, fun _ => trivial⟩) (fun hSt => ?_)
 refine take_ph 0 (.pointer (some ⟨q, 0, none⟩)) [] rfl (by kernel_rfl) (fun _ _ _ h => h) (Or.inl ⟨by rfl, ?_⟩) hSt (fun hSn => ?_)
 · intro V _; go_simp
 clear hSt; rename Ph _ _ _ _ _ _ _ => hSt; simp only [Act.put, prw]
 refine take_ph 1 (.pointer (some ⟨q, 0, none⟩)) [] rfl (by kernel_rfl) (fun _ _ _ h => h) (Or.inl ⟨by rfl, ?_⟩) hSt (fun hSn => ?_)
 · intro V _; go_simp
 clear hSt; rename Ph _ _ _ _ _ _ _ => hSt; simp only [Act.put, prw]
 refine take_ph 2 (.pointer (some ⟨q, 0, none⟩)) [] rfl (by kernel_rfl) (fun _ _ _ h => h) (Or.inl ⟨by rfl, ?_⟩) hSt (fun hSn => ?_)
 · intro V _; go_simp
 clear hSt; rename Ph _ _ _ _ _ _ _ => hSt; simp only [Act.put, prw]
 refine take_ph 3 (.pointer (some ⟨q, 0, none⟩)) [] rfl (by kernel_rfl) (fun _ _ _ h => h) (Or.inl ⟨by rfl, ?_⟩) hSt (fun hSn => ?_)
 · intro V _; go_simp
 clear hSt; rename Ph _ _ _ _ _ _ _ => hSt; simp only [Act.put, prw]
 refine take_ph 4 (.slice aq nl cqi) [14] rfl (by kernel_rfl) (fun _ _ _ h => h) (Or.inl ⟨by rfl, ?_⟩) hSt (fun hSn => ?_)
 · rintro V ⟨_, hB, hC⟩; have hh := hB (by decide); have e0 := F1.out V hh; clear hB hC; go_simp
 clear hSt; rename Ph _ _ _ _ _ _ _ => hSt; simp only [Act.put, prw]
 refine take_ph 5 (.int .i64 i1) [] rfl (by kernel_rfl) (fun _ _ _ h => h) (Or.inl ⟨by rfl, ?_⟩) hSt (fun hSn => ?_)
 · intro V _; go_simp
 clear hSt; rename Ph _ _ _ _ _ _ _ => hSt; simp only [Act.put, prw]
 refine take_ph 6 (.pointer (some ⟨c, 0, none⟩)) [] rfl (by kernel_rfl) (fun _ _ _ h => h) (Or.inl ⟨by rfl, ?_⟩) hSt (fun hSn => ?_)
 · intro V _; go_simp
 clear hSt; rename Ph _ _ _ _ _ _ _ => hSt; simp only [Act.put, prw]
 refine take_ph 7 (.pointer (some ⟨c, 0, none⟩)) [] rfl (by kernel_rfl) (fun _ _ _ h => h) (Or.inl ⟨by rfl, ?_⟩) hSt (fun hSn => ?_)
 · intro V _; go_simp
 clear hSt; rename Ph _ _ _ _ _ _ _ => hSt; simp only [Act.put, prw]
 refine take_ph 8 (.pointer (some ⟨c, 0, none⟩)) [] rfl (by kernel_rfl) (fun _ _ _ h => h) (Or.inl ⟨by rfl, ?_⟩) hSt (fun hSn => ?_)
 · intro V _; go_simp
 clear hSt; rename Ph _ _ _ _ _ _ _ => hSt; simp only [Act.put, prw]
 refine take_ph 9 (.slice (some ⟨gc, 0, none⟩) 8 cc) [11, 12, 13, 14] rfl (by kernel_rfl) (fun _ _ _ h => h) (Or.inl ⟨by rfl, ?_⟩) hSt (fun hSn => ?_)
 · rintro V ⟨_, hB, hC⟩; have hh := hB (by decide); have e0 := F2.out V hh; clear hB hC; go_simp
 clear hSt; rename Ph _ _ _ _ _ _ _ => hSt; simp only [Act.put, prw]
 refine take_ph 10 (.int .i64 4) [] rfl (by kernel_rfl) (fun _ _ _ h => h) (Or.inl ⟨by rfl, ?_⟩) hSt (fun hSn => ?_)
 · intro V _; go_simp
 clear hSt; rename Ph _ _ _ _ _ _ _ => hSt; simp only [Act.put, prw]
 refine take_ph 11 (.pointer (some ⟨gc, 8, none⟩)) [] rfl (by kernel_rfl) (fun _ _ _ h => h) (Or.inl ⟨by rfl, ?_⟩) hSt (fun hSn => ?_)
 · intro V _; go_simp
 clear hSt; rename Ph _ _ _ _ _ _ _ => hSt; simp only [Act.put, prw]
 refine take_ph 12 (.agg #[.string y.1, .slice y.2.a y.2.n y.2.c]) [13, 14] rfl (by kernel_rfl) (fun _ _ _ h => h) (Or.inl ⟨by rfl, ?_⟩) hSt (fun hSn => ?_)
 · rintro V ⟨_, hB, hC⟩; have hh := hB (by decide); have e0 := F3.out V hh; clear hB hC; go_simp
 clear hSt; rename Ph _ _ _ _ _ _ _ => hSt; simp only [Act.put, prw]
 refine ready_ph 13 rfl (by kernel_rfl) rfl (.inl (hrb.out _ _ _ rfl rfl)) (⟨trivial, fun _ => HB2.out, fun _ => trivial⟩) (fun hSn => ?_)
 clear hSt; rename Ph _ _ _ _ _ _ _ => hSt; simp only [Act.put, prw]
 refine ready_call_ph 14 rfl (by kernel_rfl) (fun KK hK => ?_)
 go_simp
 go_wp2_with (first | (go_at_call 140; refine HIn.out.mono ?_; rintro e V3 ⟨a5, m5, c5, V4, rfl, hst4, HS4⟩))
 refine hK.out _ _ ?_ (fun hSn => ?_)
 · exact ⟨trivial, fun h => absurd (show true = false from h) (by decide), fun _ => trivial⟩
 clear hK KK hSt; rename Ph _ _ _ _ _ _ _ => hSt
 refine take_ph 15 (.pointer (some ⟨q, 0, none⟩)) [] rfl (by kernel_rfl) (fun _ _ _ h => h) (Or.inl ⟨by rfl, ?_⟩) hSt (fun hSn => ?_)
 · intro V _; go_simp
 clear hSt; rename Ph _ _ _ _ _ _ _ => hSt; simp only [Act.put, prw]
 refine take_ph 16 (.pointer (some ⟨q, 0, none⟩)) [] rfl (by kernel_rfl) (fun _ _ _ h => h) (Or.inl ⟨by rfl, ?_⟩) hSt (fun hSn => ?_)
 · intro V _; go_simp
 clear hSt; rename Ph _ _ _ _ _ _ _ => hSt; simp only [Act.put, prw]
 refine ready_store_ph 17 rfl (by kernel_rfl) rfl 201 _ _ rfl _ _ rfl rfl (hst4) (⟨trivial, fun h => absurd (show true = false from h) (by decide), fun _ => trivial⟩) (fun hSn => ?_)
 clear hSt; rename Ph _ _ _ _ _ _ _ => hSt
 simp only [Act.put]
 refine done_ph (by kernel_rfl) ?_ _
 clear hSt
 refine NoPanic.normal ?_
 clear F1 F2 F3 HIn hrb hst4 HB2
 obtain ⟨nq2, hnq2⟩ : ∃ nq2 : Nd, nq2 = { n with iv := .slice a5 m5 c5, its := I1 ++ y :: I2 } := ⟨_, rfl⟩
 rw [← hnq2] at HS4
 have HN2 : Hid (nq2.its = I1 ++ y :: I2 ∧ nq2.ks = n.ks ∧ nq2.cv = n.cv) := by rw [hnq2]; exact ⟨rfl, rfl, rfl⟩
 clear hnq2
 have q2 : V4.cell? ⟨q, 1, none⟩ = some (.slice (some ⟨gq, 0, none⟩) (i1 + k2 + 1) cq) := by
  rw [(HS4.out.1.cells (upd_self _ _ _)).2.1, HN2.out.2.2, HCV2.out]
 obtain ⟨U2, hU2⟩ : ∃ U, U = V4.alloc (.cells (cP [r]).toArray 196) := ⟨_, rfl⟩
 have hrb : Hid (∀ (a : Act) (o : Oper) (z : Operand), o.op = .buildSlice 202 1 #[(0, z)] → a.eval z = .pointer (some ⟨r, 0, none⟩) → (execOp a.eval o).run Tryz.prog V4 = .ok (.value (.slice (some ⟨V4.heap.size, 0, none⟩) 1 1)) U2) := fun a o z h1 h2 => by rw [hU2]; exact run_buildP V4 r a o z h1 h2
 have HIn : Hid (Calls Tryz.prog 144 #[.slice (some ⟨gq, 0, none⟩) (i1 + k2 + 1) cq, .int .i64 ((i1 : Int) + 1), .slice (some ⟨V4.heap.size, 0, none⟩) 1 1] U2 fun e V1 => ∃ a m c' V2, e = .returned (.slice a m c') ∧ (Instr.storeAt 202 (.pointer (some ⟨q, 1, none⟩)) (.slice a m c')).run Tryz.prog V1 = .ok () V2 ∧ Hid (Store V2 (upd (upd M1 q nq2) q { nq2 with cv := .slice a m c', ks := (K1 ++ [c]) ++ r :: K2 }) ∧ Ext (Own M1) (Own (upd (upd M1 q nq2) q { nq2 with cv := .slice a m c', ks := (K1 ++ [c]) ++ r :: K2 })) W1 V2)) := by
  obtain ⟨_, hK, _, _, _, _, _, hn2⟩ := HP.out
  have hb2 : Below V4.heap.size V4 U2 := by rw [hU2]; exact below_alloc V4 _
  have hub : U2.heap[V4.heap.size]? = some (.cells (cP [r]).toArray 196 (0, 0)) := by rw [hU2]; exact new_blk V4 _
  have hh := insP_node (HS4.out.1.on hb2) (upd_self M1 q nq2) (l1 := K1 ++ [c]) (l2 := K2) (by rw [HN2.out.2.1, hK]; simp) (by rw [HN2.out.2.1]; exact hn2) (x := r) hub (HS4.out.1.not_own (Nat.le_refl _))
  rw [← HK1.out, HN2.out.2.2, HCV2.out] at hh
  refine hh.mono ?_
  rintro e V1 ⟨v', rfl, a, m, c', V2, rfl, hst, s1, s2⟩
  exact ⟨a, m, c', V2, rfl, hst, s1, (HS4.out.2.trans (Ext.of_below _ hb2)).trans s2⟩
 clear hU2
 go_wp2_with (first
  | (refine wpList_exec rfl (hrb.out _ _ _ rfl rfl) ?_)
  | (go_at_call 144; refine HIn.out.mono ?_; rintro e V5 ⟨a6, m6, c6, V6, rfl, hst6, HS6⟩)
  | (refine wpList_store_at rfl _ _ _ rfl _ _ rfl rfl hst6 ?_)
  | fail)
 obtain ⟨M3, hM3⟩ : ∃ M3, M3 = upd (upd M1 q nq2) q { nq2 with cv := .slice a6 m6 c6, ks := (K1 ++ [c]) ++ r :: K2 } := ⟨_, rfl⟩
 have HM3 : Hid (M3 q = some { nq2 with cv := .slice a6 m6 c6, ks := (K1 ++ [c]) ++ r :: K2 } ∧ ∀ k, k ≠ q → M3 k = M1 k) := by
  refine ⟨by rw [hM3]; exact upd_self _ _ _, fun k hk => by rw [hM3, upd_other _ _ hk, upd_other _ _ hk]⟩
 rw [← hM3] at HS6
 clear hM3 hst6 HIn hrb q2 HS4
 have HC3 : Hid (M3 c = some ncx) := (HM3.out.2 c (Ne.symm HD.out.1)).trans HC1.out
 have F1 : Hid (∀ V, Below V6.heap.size V6 V → V.cell? ⟨c, 0, none⟩ = some (.slice (some ⟨gc, 0, none⟩) 8 cc)) := fun V hV => by
  rw [((HS6.out.1.on hV).cells HC3.out).1, HX.out.2.1, HIV.out]
 have HIn : Hid (Calls Tryz.prog 145 #[.slice (some ⟨gc, 0, none⟩) 8 cc, .int .i64 4, .int .i64 8] V6.drew fun e V1 => ∃ a m c' V2, e = .returned (.slice a m c') ∧ (Instr.storeAt 201 (.pointer (some ⟨c, 0, none⟩)) (.slice a m c')).run Tryz.prog V1 = .ok () V2 ∧ Hid (Store V2 (upd M3 c { ncx with iv := .slice a m c', its := J1 ++ [] }) ∧ Ext (Own M1) (Own (upd M3 c { ncx with iv := .slice a m c', its := J1 ++ [] })) W1 V2)) := by
  obtain ⟨_, _, _, hJ, hJ1, hJ2, _⟩ := HP.out
  have hh := delI_node HS6.out.1.drew HC3.out (l1 := J1) (l2 := y :: J2) (l3 := []) (by rw [HX.out.1, hJ]; simp) (by simp) (by rw [HX.out.1, hJ]; simp; omega)
  rw [hJ1, HX.out.2.1, HIV.out, show ((4 + (y :: J2).length : Nat) : Int) = 8 by simp; omega] at hh
  refine hh.mono ?_
  rintro e V1 ⟨v', rfl, a, m, c', V2, rfl, hst, s1, s2⟩
  exact ⟨a, m, c', V2, rfl, hst, s1, (HS6.out.2.trans (Ext.of_below _ (below_drew V6))).trans s2⟩
 refine wp_region_noPanic ?_
 refine region_ph (A := fun _ => True) (e1 := 11) (B := (fun V => Below V6.heap.size V6 V)) (e2 := 11) (C := (fun _ => True)) (by kernel_rfl) (⟨trivial, fun _ => below_drew V6, fun _ => trivial⟩) (fun hSt => ?_)
 refine take_ph 0 (.pointer (some ⟨c, 0, none⟩)) [] rfl (by kernel_rfl) (fun _ _ _ h => h) (Or.inl ⟨by rfl, ?_⟩) hSt (fun hSn => ?_)
 · intro V _; go_simp
 clear hSt; rename Ph _ _ _ _ _ _ _ => hSt; simp only [Act.put, prw]
 refine take_ph 1 (.pointer (some ⟨c, 0, none⟩)) [] rfl (by kernel_rfl) (fun _ _ _ h => h) (Or.inl ⟨by rfl, ?_⟩) hSt (fun hSn => ?_)
 · intro V _; go_simp
 clear hSt; rename Ph _ _ _ _ _ _ _ => hSt; simp only [Act.put, prw]
 refine take_ph 2 (.pointer (some ⟨c, 0, none⟩)) [] rfl (by kernel_rfl) (fun _ _ _ h => h) (Or.inl ⟨by rfl, ?_⟩) hSt (fun hSn => ?_)
 · intro V _; go_simp
 clear hSt; rename Ph _ _ _ _ _ _ _ => hSt; simp only [Act.put, prw]
 refine take_ph 3 (.pointer (some ⟨c, 0, none⟩)) [] rfl (by kernel_rfl) (fun _ _ _ h => h) (Or.inl ⟨by rfl, ?_⟩) hSt (fun hSn => ?_)
 · intro V _; go_simp
 clear hSt; rename Ph _ _ _ _ _ _ _ => hSt; simp only [Act.put, prw]
 refine take_ph 4 (.slice (some ⟨gc, 0, none⟩) 8 cc) [11] rfl (by kernel_rfl) (fun _ _ _ h => h) (Or.inl ⟨by rfl, ?_⟩) hSt (fun hSn => ?_)
 · rintro V ⟨_, hB, hC⟩; have hh := hB (by decide); have e0 := F1.out V hh; clear hB hC; go_simp
 clear hSt; rename Ph _ _ _ _ _ _ _ => hSt; simp only [Act.put, prw]
 refine take_ph 5 (.int .i64 4) [] rfl (by kernel_rfl) (fun _ _ _ h => h) (Or.inl ⟨by rfl, ?_⟩) hSt (fun hSn => ?_)
 · intro V _; go_simp
 clear hSt; rename Ph _ _ _ _ _ _ _ => hSt; simp only [Act.put, prw]
 refine take_ph 6 (.pointer (some ⟨c, 0, none⟩)) [] rfl (by kernel_rfl) (fun _ _ _ h => h) (Or.inl ⟨by rfl, ?_⟩) hSt (fun hSn => ?_)
 · intro V _; go_simp
 clear hSt; rename Ph _ _ _ _ _ _ _ => hSt; simp only [Act.put, prw]
 refine take_ph 7 (.pointer (some ⟨c, 0, none⟩)) [] rfl (by kernel_rfl) (fun _ _ _ h => h) (Or.inl ⟨by rfl, ?_⟩) hSt (fun hSn => ?_)
 · intro V _; go_simp
 clear hSt; rename Ph _ _ _ _ _ _ _ => hSt; simp only [Act.put, prw]
 refine take_ph 8 (.pointer (some ⟨c, 0, none⟩)) [] rfl (by kernel_rfl) (fun _ _ _ h => h) (Or.inl ⟨by rfl, ?_⟩) hSt (fun hSn => ?_)
 · intro V _; go_simp
 clear hSt; rename Ph _ _ _ _ _ _ _ => hSt; simp only [Act.put, prw]
 refine take_ph 9 (.slice (some ⟨gc, 0, none⟩) 8 cc) [10, 11] rfl (by kernel_rfl) (fun _ _ _ h => h) (Or.inl ⟨by rfl, ?_⟩) hSt (fun hSn => ?_)
 · rintro V ⟨_, hB, hC⟩; have hh := hB (by decide); have e0 := F1.out V hh; clear hB hC; go_simp
 clear hSt; rename Ph _ _ _ _ _ _ _ => hSt; simp only [Act.put, prw]
 refine take_ph 10 (.int .i64 8) [] rfl (by kernel_rfl) (fun _ _ _ h => h) (Or.inl ⟨by rfl, ?_⟩) hSt (fun hSn => ?_)
 · intro V _; go_simp
 clear hSt; rename Ph _ _ _ _ _ _ _ => hSt; simp only [Act.put, prw]
 refine ready_call_ph 11 rfl (by kernel_rfl) (fun KK hK => ?_)
 go_simp
 go_wp2_with (first | (go_at_call 145; refine HIn.out.mono ?_; rintro e V7 ⟨a7, m7, c7, V8, rfl, hst8, HS8⟩))
 refine hK.out _ _ ?_ (fun hSn => ?_)
 · exact ⟨trivial, fun h => absurd (show true = false from h) (by decide), fun _ => trivial⟩
 clear hK KK hSt; rename Ph _ _ _ _ _ _ _ => hSt
 refine take_ph 12 (.pointer (some ⟨c, 0, none⟩)) [] rfl (by kernel_rfl) (fun _ _ _ h => h) (Or.inl ⟨by rfl, ?_⟩) hSt (fun hSn => ?_)
 · intro V _; go_simp
 clear hSt; rename Ph _ _ _ _ _ _ _ => hSt; simp only [Act.put, prw]
 refine take_ph 13 (.pointer (some ⟨c, 0, none⟩)) [] rfl (by kernel_rfl) (fun _ _ _ h => h) (Or.inl ⟨by rfl, ?_⟩) hSt (fun hSn => ?_)
 · intro V _; go_simp
 clear hSt; rename Ph _ _ _ _ _ _ _ => hSt; simp only [Act.put, prw]
 refine ready_store_ph 14 rfl (by kernel_rfl) rfl 201 _ _ rfl _ _ rfl rfl (hst8) (⟨trivial, fun h => absurd (show true = false from h) (by decide), fun _ => trivial⟩) (fun hSn => ?_)
 clear hSt; rename Ph _ _ _ _ _ _ _ => hSt
 simp only [Act.put]
 refine done_ph (by kernel_rfl) ?_ _
 clear hSt
 refine NoPanic.normal ?_
 have HZ : Hid (SplitTo w M q c (I1 ++ y :: I2) K1 K2 J1 C1 J2 C2 (.returned (.tuple #[])) V8) := by
  obtain ⟨hqc, hqr, hcr, hr0⟩ := HD.out
  refine ⟨rfl, _, r, HS8.out.1, HE1.out.trans HS8.out.2, hr0, ⟨_, (upd_other _ _ hqc).trans HM3.out.1, HN2.out.1, by simp⟩, ⟨_, upd_self _ _ _, by simp, HX.out.2.2⟩, ?_, fun k h1 h2 h3 => ?_⟩
  · obtain ⟨nr, hnr, e1, e2⟩ := HR1.out
    exact ⟨nr, (upd_other _ _ (Ne.symm hcr)).trans ((HM3.out.2 r (Ne.symm hqr)).trans hnr), e1, e2⟩
  · exact (upd_other _ _ h2).trans ((HM3.out.2 k h1).trans (HRe.out k h1 h2 h3))
 clear HS8 HS6 HE1 HX HR1 HRe HM3
 go_wp2_with fail
 go_end0
 exact HZ.out
end Go.Proofs.YtalmanfjiblhcaaGreat
