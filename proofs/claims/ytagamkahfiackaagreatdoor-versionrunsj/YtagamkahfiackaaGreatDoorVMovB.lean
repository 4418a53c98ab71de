/- node.moveBehind. -/
import Derived.Test.YtagamkahfiackaaGreatDoorVMov0
namespace Go.Proofs.YtagamkahfiackaaGreatDoor
open Go.RowKit Go.Sort

/-- Two neighbours among a node's children. -/
theorem Store.kid2 {w : World} {M : Nat → Option Nd} {q : Nat} {n : Nd} {K1 K2 : List Nat} {a b : Nat} (h : Store w M) (hq : M q = some n) (hK : n.ks = K1 ++ a :: b :: K2) : ∃ g c, n.cv = .slice (some ⟨g, 0, none⟩) (K1.length + K2.length + 2) c ∧ w.cell? ⟨g, K1.length, none⟩ = some (.pointer (some ⟨a, 0, none⟩)) ∧ w.cell? ⟨g, K1.length + 1, none⟩ = some (.pointer (some ⟨b, 0, none⟩)) := by
  obtain ⟨g, c, e1, _, h1, _⟩ := h.kid hq hK
  have hK' : n.ks = (K1 ++ [a]) ++ b :: K2 := by rw [hK]; simp
  obtain ⟨g', c', e2, _, h2, _⟩ := h.kid hq hK'
  rw [e1] at e2
  simp only [Value.slice.injEq, Option.some.injEq, Addr.mk.injEq] at e2
  obtain ⟨⟨rfl, _⟩, _⟩ := e2
  refine ⟨g, c, by rw [e1]; simp; omega, h1, ?_⟩
  simpa [pt] using h2
set_option maxRecDepth 100000 in
set_option maxHeartbeats 2000000 in
theorem moveBehind_ {w : World} {M : Nat → Option Nd} {q a b : Nat} {n na nb : Nd} {I1 I2 J : List It} {x y : It} {K1 K2 ca cb : List Nat} (hs : Store w M) (hq : M q = some n) (ha : M a = some na) (hb : M b = some nb) (hqa : q ≠ a) (hqb : q ≠ b) (hab : a ≠ b)
    (hI : n.its = I1 ++ x :: I2) (hK : n.ks = K1 ++ a :: b :: K2) (hIK : I1.length = K1.length) (hJ : na.its = J ++ [y]) (hn : n.its.length ≤ 100) (hna : na.its.length ≤ 100) (hnb : nb.its.length ≤ 100) (hna2 : na.ks.length ≤ 100) (hnb2 : nb.ks.length ≤ 100)
    (hc : (na.ks = [] ∧ ca = [] ∧ cb = nb.ks) ∨ ∃ d, na.ks = ca ++ [d] ∧ cb = d :: nb.ks) :
    Calls Tryz.prog 78 #[.pointer (some ⟨q, 0, none⟩), .int .i64 I1.length] w (MovedTo w M q a b (I1 ++ y :: I2) n.ks J ca (x :: nb.its) cb) := by
  obtain ⟨gk, ck, hncv, kA, kB⟩ := hs.kid2 hq hK
  obtain ⟨g, c, hniv, _, _, _, _, _, _⟩ := hs.item hq hI
  obtain ⟨ga, cga, haiv, _⟩ := hs.item ha hJ
  obtain ⟨ab, cbv, hbiv, _⟩ := row_shape (hs.its b nb hb)
  have q1 := (hs.cells hq).2.1
  rw [hncv] at q1
  rw [← hIK] at q1 kA kB
  have hF0 : Far w M w M := ⟨hs, Ext.refl _ _⟩
  have HF0 := Lib.hid (hF0.go (below_drew w))
  have HQ := Lib.hid hq
  have HA := Lib.hid ha
  have HB := Lib.hid hb
  have HD := Lib.hid (And.intro hqa (And.intro hqb hab))
  have HL := Lib.hid (And.intro hI (And.intro hJ (And.intro hniv (And.intro haiv (And.intro hbiv (And.intro hn (And.intro hna (And.intro hnb (And.intro hna2 hnb2)))))))))
  have HCc := Lib.hid hc
  obtain ⟨i1, hi1⟩ : ∃ i1, i1 = I1.length := ⟨_, rfl⟩
  obtain ⟨i2, hi2⟩ : ∃ i2, i2 = I2.length := ⟨_, rfl⟩
  obtain ⟨j1, hj1⟩ : ∃ j1, j1 = J.length := ⟨_, rfl⟩
  obtain ⟨k2, hk2⟩ : ∃ k2, k2 = K2.length := ⟨_, rfl⟩
  have HE := Lib.hid (And.intro hi1 (And.intro hi2 hj1))
  have hb1 : i1 ≤ 100 := by rw [hI] at hn; simp at hn; omega
  have hb2 : j1 ≤ 100 := by rw [hJ] at hna; simp at hna; omega
  rw [← hi1] at q1 kA kB
  rw [← hk2] at q1
  rw [← hi1]
  have hx0 : (i1 : Int) < (i1 : Int) + (k2 : Int) + 2 := by omega
  have hx1 : (i1 : Int) + 1 < (i1 : Int) + (k2 : Int) + 2 := by omega
  have hw1 := wraps_i64 ((i1 : Int) + 1) (by omega) (by omega)
  have htn : ((i1 : Int) + 1).toNat = i1 + 1 := by omega
  clear hs hq ha hb hqa hqb hab hI hK hIK hJ hn hna hnb hna2 hnb2 hc hncv hniv haiv hbiv hi1 hi2 hj1 hk2 hF0
  go_enter Tryz.func78, Tryz.ntmps78
  go_wp2_with fail
  go_region_held (fun V => V.cell? ⟨q, 1, none⟩ = some (.slice (some ⟨gk, 0, none⟩) (i1 + k2 + 2) ck) ∧ V.cell? ⟨gk, i1, none⟩ = some (.pointer (some ⟨a, 0, none⟩)) ∧ V.cell? ⟨gk, i1 + 1, none⟩ = some (.pointer (some ⟨b, 0, none⟩))) (go_keep) (fail)
  go_wp2_with fail
  clear q1 kA kB hx0 hx1
  generalize w.drew = W0 at *
  -- right.items = Insert(right.items, 0, n.items[i])
  obtain ⟨lb, hlb⟩ : ∃ lb, lb = nb.its.length := ⟨_, rfl⟩
  have F1 : Hid (∀ V, Below W0.heap.size W0 V → V.cell? ⟨b, 0, none⟩ = some (.slice ab lb cbv)) := fun V hV => by
    rw [((HF0.out.st.on hV).cells HB.out).1, HL.out.2.2.2.2.1, hlb]
  have F2 : Hid (∀ V, Below W0.heap.size W0 V → V.cell? ⟨q, 0, none⟩ = some (.slice (some ⟨g, 0, none⟩) (i1 + i2 + 1) c)) := fun V hV => by
    rw [((HF0.out.st.on hV).cells HQ.out).1, HL.out.2.2.1, HE.out.1, HE.out.2.1]
  have F3 : Hid (∀ V, Below W0.heap.size W0 V → V.cell? ⟨g, i1 * 2, none⟩ = some (.string x.1) ∧ V.cell? ⟨g, i1 * 2 + 1, none⟩ = some (.slice x.2.a x.2.n x.2.c)) := fun V hV => by
    obtain ⟨g', c', e1, _, e2, e3, _⟩ := (HF0.out.st.on hV).item HQ.out HL.out.1
    rw [HL.out.2.2.1] at e1
    simp only [Value.slice.injEq, Option.some.injEq, Addr.mk.injEq] at e1
    obtain ⟨⟨rfl, _⟩, _⟩ := e1
    rw [HE.out.1]
    exact ⟨e2, e3⟩
  obtain ⟨U1, hU1⟩ : ∃ U, U = W0.drew.alloc (.cells (cI [x]).toArray 99) := ⟨_, rfl⟩
  have HBU : Hid (Below W0.heap.size W0 U1) := by show Below _ _ _; rw [hU1]; exact below_step (below_drew W0) (below_alloc W0.drew _)
  have hrb : Hid (∀ (a : Act) (o : Oper) (z : Operand), o.op = .buildSlice 100 1 #[(0, z)] → a.eval z = itV x → (execOp a.eval o).run Tryz.prog W0.drew = .ok (.value (.slice (some ⟨W0.heap.size, 0, none⟩) 1 1)) U1) := fun a o z h1 h2 => by rw [hU1]; exact run_buildI W0.drew x a o z h1 h2
  have HIn : Hid (Calls Tryz.prog 66 #[.slice ab lb cbv, .int .i64 0, .slice (some ⟨W0.heap.size, 0, none⟩) 1 1] U1 fun e V1 => ∃ a' m c V2, e = .returned (.slice a' m c) ∧ (Instr.storeAt 100 (.pointer (some ⟨b, 0, none⟩)) (.slice a' m c)).run Tryz.prog V1 = .ok () V2 ∧ Hid (∃ n', n'.its = x :: nb.its ∧ n'.ks = nb.ks ∧ n'.cv = nb.cv ∧ Far w M V2 (upd M b n'))) := by
    have := far_insI (l1 := []) (l2 := nb.its) (x := x) HF0.out HBU.out HB.out rfl (by have := HL.out.2.2.2.2.2.2.2.1; omega) (by rw [hU1]; exact new_blk W0.drew _)
    rw [HL.out.2.2.2.2.1, ← hlb] at this
    exact this
  clear hU1 hlb
  have hlt : (i1 : Int) < (i1 : Int) + (i2 : Int) + 1 := by omega
  refine wp_region_noPanic ?_
  refine region_ph (A := fun _ => True) (e1 := 13) (B := (fun V => Below W0.heap.size W0 V)) (e2 := 13) (C := (fun _ => True)) (by kernel_rfl) (⟨trivial, fun _ => below_drew W0, fun _ => trivial⟩) (fun hSt => ?_)
  refine take_ph 0 (.pointer (some ⟨b, 0, none⟩)) [] rfl (by kernel_rfl) (fun _ _ _ h => h) (Or.inl ⟨by rfl, ?_⟩) hSt (fun hSn => ?_)
  · intro V _; go_simp
  clear hSt; rename Ph _ _ _ _ _ _ _ => hSt
  simp only [Act.put, List.setIfInBounds_toArray, List.set_cons_zero, List.set_cons_succ]
  refine take_ph 1 (.pointer (some ⟨b, 0, none⟩)) [] rfl (by kernel_rfl) (fun _ _ _ h => h) (Or.inl ⟨by rfl, ?_⟩) hSt (fun hSn => ?_)
  · intro V _; go_simp
  clear hSt; rename Ph _ _ _ _ _ _ _ => hSt
  simp only [Act.put, List.setIfInBounds_toArray, List.set_cons_zero, List.set_cons_succ]
  refine take_ph 2 (.pointer (some ⟨b, 0, none⟩)) [] rfl (by kernel_rfl) (fun _ _ _ h => h) (Or.inl ⟨by rfl, ?_⟩) hSt (fun hSn => ?_)
  · intro V _; go_simp
  clear hSt; rename Ph _ _ _ _ _ _ _ => hSt
  simp only [Act.put, List.setIfInBounds_toArray, List.set_cons_zero, List.set_cons_succ]
  refine take_ph 3 (.pointer (some ⟨b, 0, none⟩)) [] rfl (by kernel_rfl) (fun _ _ _ h => h) (Or.inl ⟨by rfl, ?_⟩) hSt (fun hSn => ?_)
  · intro V _; go_simp
  clear hSt; rename Ph _ _ _ _ _ _ _ => hSt
  simp only [Act.put, List.setIfInBounds_toArray, List.set_cons_zero, List.set_cons_succ]
  refine take_ph 4 (.slice ab lb cbv) [13] rfl (by kernel_rfl) (fun _ _ _ h => h) (Or.inl ⟨by rfl, ?_⟩) hSt (fun hSn => ?_)
  · rintro V ⟨_, hB, hC⟩; have hh := hB (by decide); have e0 := F1.out V hh; clear hB hC; go_simp
  clear hSt; rename Ph _ _ _ _ _ _ _ => hSt
  simp only [Act.put, List.setIfInBounds_toArray, List.set_cons_zero, List.set_cons_succ]
  refine take_ph 5 (.pointer (some ⟨q, 0, none⟩)) [] rfl (by kernel_rfl) (fun _ _ _ h => h) (Or.inl ⟨by rfl, ?_⟩) hSt (fun hSn => ?_)
  · intro V _; go_simp
  clear hSt; rename Ph _ _ _ _ _ _ _ => hSt
  simp only [Act.put, List.setIfInBounds_toArray, List.set_cons_zero, List.set_cons_succ]
  refine take_ph 6 (.pointer (some ⟨q, 0, none⟩)) [] rfl (by kernel_rfl) (fun _ _ _ h => h) (Or.inl ⟨by rfl, ?_⟩) hSt (fun hSn => ?_)
  · intro V _; go_simp
  clear hSt; rename Ph _ _ _ _ _ _ _ => hSt
  simp only [Act.put, List.setIfInBounds_toArray, List.set_cons_zero, List.set_cons_succ]
  refine take_ph 7 (.pointer (some ⟨q, 0, none⟩)) [] rfl (by kernel_rfl) (fun _ _ _ h => h) (Or.inl ⟨by rfl, ?_⟩) hSt (fun hSn => ?_)
  · intro V _; go_simp
  clear hSt; rename Ph _ _ _ _ _ _ _ => hSt
  simp only [Act.put, List.setIfInBounds_toArray, List.set_cons_zero, List.set_cons_succ]
  refine take_ph 8 (.slice (some ⟨g, 0, none⟩) (i1 + i2 + 1) c) [10, 11, 12, 13] rfl (by kernel_rfl) (fun _ _ _ h => h) (Or.inl ⟨by rfl, ?_⟩) hSt (fun hSn => ?_)
  · rintro V ⟨_, hB, hC⟩; have hh := hB (by decide); have e0 := F2.out V hh; clear hB hC; go_simp
  clear hSt; rename Ph _ _ _ _ _ _ _ => hSt
  simp only [Act.put, List.setIfInBounds_toArray, List.set_cons_zero, List.set_cons_succ]
  refine take_ph 9 (.int .i64 i1) [] rfl (by kernel_rfl) (fun _ _ _ h => h) (Or.inl ⟨by rfl, ?_⟩) hSt (fun hSn => ?_)
  · intro V _; go_simp
  clear hSt; rename Ph _ _ _ _ _ _ _ => hSt
  simp only [Act.put, List.setIfInBounds_toArray, List.set_cons_zero, List.set_cons_succ]
  refine take_ph 10 (.pointer (some ⟨g, i1 * 2, none⟩)) [] rfl (by kernel_rfl) (fun _ _ _ h => h) (Or.inl ⟨by rfl, ?_⟩) hSt (fun hSn => ?_)
  · intro V _; go_simp
  clear hSt; rename Ph _ _ _ _ _ _ _ => hSt
  simp only [Act.put, List.setIfInBounds_toArray, List.set_cons_zero, List.set_cons_succ]
  refine take_ph 11 (.agg #[.string x.1, .slice x.2.a x.2.n x.2.c]) [12, 13] rfl (by kernel_rfl) (fun _ _ _ h => h) (Or.inl ⟨by rfl, ?_⟩) hSt (fun hSn => ?_)
  · rintro V ⟨_, hB, hC⟩; have hh := hB (by decide); have e0 := F3.out V hh; clear hB hC; go_simp
  clear hSt; rename Ph _ _ _ _ _ _ _ => hSt
  simp only [Act.put, List.setIfInBounds_toArray, List.set_cons_zero, List.set_cons_succ]
  refine ready_ph 12 rfl (by kernel_rfl) rfl (.inl (hrb.out _ _ _ rfl rfl)) (⟨trivial, fun _ => HBU.out, fun _ => trivial⟩) (fun hSn => ?_)
  clear hSt; rename Ph _ _ _ _ _ _ _ => hSt
  simp only [Act.put, List.setIfInBounds_toArray, List.set_cons_zero, List.set_cons_succ]
  refine ready_call_ph 13 rfl (by kernel_rfl) (fun KK hK => ?_)
  go_simp
  go_wp2_with (first | (go_at_call 66; refine HIn.out.mono ?_; rintro e V1 ⟨a5, m5, c5, V2, rfl, hst2, HS2⟩))
  refine hK.out _ _ ?_ (fun hSn => ?_)
  · exact ⟨trivial, fun h => absurd (show true = false from h) (by decide), fun _ => trivial⟩
  clear hK KK hSt; rename Ph _ _ _ _ _ _ _ => hSt
  refine take_ph 14 (.pointer (some ⟨b, 0, none⟩)) [] rfl (by kernel_rfl) (fun _ _ _ h => h) (Or.inl ⟨by rfl, ?_⟩) hSt (fun hSn => ?_)
  · intro V _; go_simp
  clear hSt; rename Ph _ _ _ _ _ _ _ => hSt
  simp only [Act.put, List.setIfInBounds_toArray, List.set_cons_zero, List.set_cons_succ]
  refine take_ph 15 (.pointer (some ⟨b, 0, none⟩)) [] rfl (by kernel_rfl) (fun _ _ _ h => h) (Or.inl ⟨by rfl, ?_⟩) hSt (fun hSn => ?_)
  · intro V _; go_simp
  clear hSt; rename Ph _ _ _ _ _ _ _ => hSt
  simp only [Act.put, List.setIfInBounds_toArray, List.set_cons_zero, List.set_cons_succ]
  refine ready_store_ph 16 rfl (by kernel_rfl) rfl 100 _ _ rfl _ _ rfl rfl (hst2) (⟨trivial, fun h => absurd (show true = false from h) (by decide), fun _ => trivial⟩) (fun hSn => ?_)
  clear hSt; rename Ph _ _ _ _ _ _ _ => hSt
  simp only [Act.put]
  refine done_ph (by kernel_rfl) ?_ _
  clear hSt
  refine NoPanic.normal ?_
  clear F1 F2 F3 HIn hrb hst2 HBU
  go_wp2_with fail
  obtain ⟨nb2, e1, e2, e3, hF2⟩ := HS2.out
  obtain ⟨M2, hM2⟩ : ∃ M2, M2 = upd M b nb2 := ⟨_, rfl⟩
  have HM2 : Hid (M2 b = some nb2 ∧ (∀ k, k ≠ b → M2 k = M k) ∧ nb2.its = x :: nb.its ∧ nb2.ks = nb.ks ∧ nb2.cv = nb.cv ∧ Far w M V2 M2) := by
    rw [hM2]; exact ⟨upd_self _ _ _, fun k hk => upd_other _ _ hk, e1, e2, e3, hF2⟩
  clear hM2 e1 e2 e3 hF2 HS2
  have HA2 : Hid (M2 a = some na) := (HM2.out.2.1 a HD.out.2.2).trans HA.out
  have HQ2 : Hid (M2 q = some n) := (HM2.out.2.1 q HD.out.2.1).trans HQ.out
  -- n.items[i] = takeAt(&left.items, len(left.items)-1)
  have F1 : Hid (∀ V, Below V2.heap.size V2 V → V.cell? ⟨a, 0, none⟩ = some (.slice (some ⟨ga, 0, none⟩) (j1 + 1) cga)) := fun V hV => by
    rw [((HM2.out.2.2.2.2.2.st.on hV).cells HA2.out).1, HL.out.2.2.2.1, HE.out.2.2]; simp
  have HC0 : Hid (V2.drew.cell? ⟨q, 0, none⟩ = some (.slice (some ⟨g, 0, none⟩) (i1 + i2 + 1) c)) := by
    have := (HM2.out.2.2.2.2.2.st.drew.cells HQ2.out).1
    show _ = _
    rw [this, HL.out.2.2.1, HE.out.1, HE.out.2.1]
  have HTk : Hid (Calls Tryz.prog 65 #[.pointer (some ⟨a, 0, none⟩), .int .i64 j1] V2.drew fun e V' => e = .returned (.agg #[.string y.1, .slice y.2.a y.2.n y.2.c]) ∧ V'.cell? ⟨q, 0, none⟩ = some (.slice (some ⟨g, 0, none⟩) (i1 + i2 + 1) c) ∧ ∃ V4, (Instr.storeAt 99 (.pointer (some ⟨g, i1 * 2, none⟩)) (.agg #[.string y.1, .slice y.2.a y.2.n y.2.c])).run Tryz.prog V' = .ok () V4 ∧ Hid (∃ na2 n2, na2.its = J ∧ na2.ks = na.ks ∧ na2.cv = na.cv ∧ n2.its = I1 ++ y :: I2 ∧ n2.ks = n.ks ∧ Far w M V4 (upd (upd M2 a na2) q n2))) := by
    have ht := far_takeI (I1 := J) (I2 := []) (x := y) (HM2.out.2.2.2.2.2.go (below_drew V2)) HA2.out HL.out.2.1 (by have := HL.out.2.2.2.2.2.2.1; omega)
    rw [← HE.out.2.2] at ht
    refine ht.mono fun e V' ⟨e1, na2, e2, e3, e4, hF⟩ => ?_
    have hq3 : upd M2 a na2 q = some n := (upd_other _ _ HD.out.1).trans HQ2.out
    obtain ⟨V4, hst, hF4⟩ := far_setI y hF hq3 HL.out.1 HL.out.2.2.1
    rw [← HE.out.1] at hst
    refine ⟨e1, by rw [(hF.st.cells hq3).1, HL.out.2.2.1, HE.out.1, HE.out.2.1], V4, hst, na2, { n with its := I1 ++ y :: I2 }, by rw [e2]; simp, e3, e4, rfl, rfl, hF4⟩
  have hwj := wraps_i64 (j1 : Int) (by omega) (by omega)
  refine wp_region_noPanic ?_
  refine region_ph (A := fun _ => True) (e1 := 14) (B := (fun V => Below V2.heap.size V2 V)) (e2 := 16) (C := (fun V => V.cell? ⟨q, 0, none⟩ = some (.slice (some ⟨g, 0, none⟩) (i1 + i2 + 1) c))) (by kernel_rfl) (⟨trivial, fun _ => below_drew V2, fun _ => HC0.out⟩) (fun hSt => ?_)
  refine take_ph 0 (.pointer (some ⟨q, 0, none⟩)) [] rfl (by kernel_rfl) (fun _ _ _ h => h) (Or.inl ⟨by rfl, ?_⟩) hSt (fun hSn => ?_)
  · intro V _; go_simp
  clear hSt; rename Ph _ _ _ _ _ _ _ => hSt
  simp only [Act.put, List.setIfInBounds_toArray, List.set_cons_zero, List.set_cons_succ]
  refine take_ph 1 (.pointer (some ⟨q, 0, none⟩)) [] rfl (by kernel_rfl) (fun _ _ _ h => h) (Or.inl ⟨by rfl, ?_⟩) hSt (fun hSn => ?_)
  · intro V _; go_simp
  clear hSt; rename Ph _ _ _ _ _ _ _ => hSt
  simp only [Act.put, List.setIfInBounds_toArray, List.set_cons_zero, List.set_cons_succ]
  refine take_ph 2 (.pointer (some ⟨q, 0, none⟩)) [] rfl (by kernel_rfl) (fun _ _ _ h => h) (Or.inl ⟨by rfl, ?_⟩) hSt (fun hSn => ?_)
  · intro V _; go_simp
  clear hSt; rename Ph _ _ _ _ _ _ _ => hSt
  simp only [Act.put, List.setIfInBounds_toArray, List.set_cons_zero, List.set_cons_succ]
  refine take_ph 3 (.slice (some ⟨g, 0, none⟩) (i1 + i2 + 1) c) [15, 16] rfl (by kernel_rfl) (fun _ _ _ h => h) (Or.inl ⟨by rfl, ?_⟩) hSt (fun hSn => ?_)
  · rintro V ⟨_, hB, hC⟩; have hh := hC (by decide); have e0 := hh; clear hB hC; go_simp
  clear hSt; rename Ph _ _ _ _ _ _ _ => hSt
  simp only [Act.put, List.setIfInBounds_toArray, List.set_cons_zero, List.set_cons_succ]
  refine take_ph 4 (.int .i64 i1) [] rfl (by kernel_rfl) (fun _ _ _ h => h) (Or.inl ⟨by rfl, ?_⟩) hSt (fun hSn => ?_)
  · intro V _; go_simp
  clear hSt; rename Ph _ _ _ _ _ _ _ => hSt
  simp only [Act.put, List.setIfInBounds_toArray, List.set_cons_zero, List.set_cons_succ]
  refine take_ph 5 (.pointer (some ⟨a, 0, none⟩)) [] rfl (by kernel_rfl) (fun _ _ _ h => h) (Or.inl ⟨by rfl, ?_⟩) hSt (fun hSn => ?_)
  · intro V _; go_simp
  clear hSt; rename Ph _ _ _ _ _ _ _ => hSt
  simp only [Act.put, List.setIfInBounds_toArray, List.set_cons_zero, List.set_cons_succ]
  refine take_ph 6 (.pointer (some ⟨a, 0, none⟩)) [] rfl (by kernel_rfl) (fun _ _ _ h => h) (Or.inl ⟨by rfl, ?_⟩) hSt (fun hSn => ?_)
  · intro V _; go_simp
  clear hSt; rename Ph _ _ _ _ _ _ _ => hSt
  simp only [Act.put, List.setIfInBounds_toArray, List.set_cons_zero, List.set_cons_succ]
  refine take_ph 7 (.pointer (some ⟨a, 0, none⟩)) [] rfl (by kernel_rfl) (fun _ _ _ h => h) (Or.inl ⟨by rfl, ?_⟩) hSt (fun hSn => ?_)
  · intro V _; go_simp
  clear hSt; rename Ph _ _ _ _ _ _ _ => hSt
  simp only [Act.put, List.setIfInBounds_toArray, List.set_cons_zero, List.set_cons_succ]
  refine take_ph 8 (.pointer (some ⟨a, 0, none⟩)) [] rfl (by kernel_rfl) (fun _ _ _ h => h) (Or.inl ⟨by rfl, ?_⟩) hSt (fun hSn => ?_)
  · intro V _; go_simp
  clear hSt; rename Ph _ _ _ _ _ _ _ => hSt
  simp only [Act.put, List.setIfInBounds_toArray, List.set_cons_zero, List.set_cons_succ]
  refine take_ph 9 (.pointer (some ⟨a, 0, none⟩)) [] rfl (by kernel_rfl) (fun _ _ _ h => h) (Or.inl ⟨by rfl, ?_⟩) hSt (fun hSn => ?_)
  · intro V _; go_simp
  clear hSt; rename Ph _ _ _ _ _ _ _ => hSt
  simp only [Act.put, List.setIfInBounds_toArray, List.set_cons_zero, List.set_cons_succ]
  refine take_ph 10 (.pointer (some ⟨a, 0, none⟩)) [] rfl (by kernel_rfl) (fun _ _ _ h => h) (Or.inl ⟨by rfl, ?_⟩) hSt (fun hSn => ?_)
  · intro V _; go_simp
  clear hSt; rename Ph _ _ _ _ _ _ _ => hSt
  simp only [Act.put, List.setIfInBounds_toArray, List.set_cons_zero, List.set_cons_succ]
  refine take_ph 11 (.slice (some ⟨ga, 0, none⟩) (j1 + 1) cga) [12, 13, 14] rfl (by kernel_rfl) (fun _ _ _ h => h) (Or.inl ⟨by rfl, ?_⟩) hSt (fun hSn => ?_)
  · rintro V ⟨_, hB, hC⟩; have hh := hB (by decide); have e0 := F1.out V hh; clear hB hC; go_simp
  clear hSt; rename Ph _ _ _ _ _ _ _ => hSt
  simp only [Act.put, List.setIfInBounds_toArray, List.set_cons_zero, List.set_cons_succ]
  refine take_ph 12 (.int .i64 ((j1 : Int) + 1)) [] rfl (by kernel_rfl) (fun _ _ _ h => h) (Or.inl ⟨by rfl, ?_⟩) hSt (fun hSn => ?_)
  · intro V _; go_simp
  clear hSt; rename Ph _ _ _ _ _ _ _ => hSt
  simp only [Act.put, List.setIfInBounds_toArray, List.set_cons_zero, List.set_cons_succ]
  refine take_ph 13 (.int .i64 j1) [] rfl (by kernel_rfl) (fun _ _ _ h => h) (Or.inl ⟨by rfl, ?_⟩) hSt (fun hSn => ?_)
  · intro V _; go_simp
  clear hSt; rename Ph _ _ _ _ _ _ _ => hSt
  simp only [Act.put, List.setIfInBounds_toArray, List.set_cons_zero, List.set_cons_succ]
  refine ready_call_ph 14 rfl (by kernel_rfl) (fun KK hK => ?_)
  go_simp
  go_wp2_with (first | (go_at_call 65; refine HTk.out.mono ?_; rintro e V3 ⟨rfl, hc3, V4, hst4, HS4⟩))
  refine hK.out _ _ ?_ (fun hSn => ?_)
  · exact ⟨trivial, fun h => absurd (show true = false from h) (by decide), fun _ => hc3⟩
  clear hK KK hSt; rename Ph _ _ _ _ _ _ _ => hSt
  refine take_ph 15 (.pointer (some ⟨g, i1 * 2, none⟩)) [] rfl (by kernel_rfl) (fun _ _ _ h => h) (Or.inl ⟨by rfl, ?_⟩) hSt (fun hSn => ?_)
  · intro V _; go_simp
  clear hSt; rename Ph _ _ _ _ _ _ _ => hSt
  simp only [Act.put, List.setIfInBounds_toArray, List.set_cons_zero, List.set_cons_succ]
  refine ready_store_ph 16 rfl (by kernel_rfl) rfl 99 _ _ rfl _ _ rfl rfl (hst4) (⟨trivial, fun h => absurd (show true = false from h) (by decide), fun h => absurd (show true = false from h) (by decide)⟩) (fun hSn => ?_)
  clear hSt; rename Ph _ _ _ _ _ _ _ => hSt
  simp only [Act.put]
  refine done_ph (by kernel_rfl) ?_ _
  clear hSt
  refine NoPanic.normal ?_
  clear F1 HC0 HTk hst4 hc3
  obtain ⟨na2, n2, e1, e2, e3, e4, e5, hF4⟩ := HS4.out
  obtain ⟨M4, hM4⟩ : ∃ M4, M4 = upd (upd M2 a na2) q n2 := ⟨_, rfl⟩
  have HM4 : Hid (M4 q = some n2 ∧ M4 a = some na2 ∧ M4 b = some nb2 ∧ (∀ k, k ≠ q → k ≠ a → k ≠ b → M4 k = M k) ∧ na2.its = J ∧ na2.ks = na.ks ∧ na2.cv = na.cv ∧ n2.its = I1 ++ y :: I2 ∧ n2.ks = n.ks ∧ Far w M V4 M4) := by
    obtain ⟨d1, d2, d3⟩ := HD.out
    rw [hM4]
    exact ⟨upd_self _ _ _, (upd_other _ _ (Ne.symm d1)).trans (upd_self _ _ _), (upd_other _ _ (Ne.symm d2)).trans ((upd_other _ _ (Ne.symm d3)).trans HM2.out.1), fun k h1 h2 h3 => (upd_other _ _ h1).trans ((upd_other _ _ h2).trans (HM2.out.2.1 k h3)), e1, e2, e3, e4, e5, hF4⟩
  clear hM4 e1 e2 e3 e4 e5 hF4 HS4
  have HN2 : Hid (nb2.its = x :: nb.its ∧ nb2.ks = nb.ks ∧ nb2.cv = nb.cv) := ⟨HM2.out.2.2.1, HM2.out.2.2.2.1, HM2.out.2.2.2.2.1⟩
  clear HM2 HA2 HQ2
  rcases HCc.out with ⟨hk0, rfl, rfl⟩ | ⟨d, hk0, rfl⟩
  · obtain ⟨ak, ckk, hacv, _⟩ := row_shape (HM4.out.2.2.2.2.2.2.2.2.2.st.ks a na2 HM4.out.2.1)
    rw [HM4.out.2.2.2.2.2.1, hk0] at hacv
    have c4 : V4.cell? ⟨a, 1, none⟩ = some (.slice ak 0 ckk) := by rw [(HM4.out.2.2.2.2.2.2.2.2.2.st.cells HM4.out.2.1).2.1, hacv]; rfl
    have HZ : Hid (MovedTo w M q a b (I1 ++ y :: I2) n.ks J [] (x :: nb.its) nb.ks (.returned (.tuple #[])) V4) := by
      obtain ⟨g1, g2, g3, g4, g5, g6, g7, g8, g9, g10⟩ := HM4.out
      exact ⟨rfl, M4, g10.st, g10.ext, ⟨n2, g1, g8, g9⟩, ⟨na2, g2, g5, g6.trans hk0⟩, ⟨nb2, g3, HN2.out.1, HN2.out.2.1⟩, g4⟩
    clear HM4 hk0 hacv HN2 HCc
    go_wp2_with fail
    go_end0
    exact HZ.out
  · have hk4 : na2.ks = ca ++ d :: [] := by rw [HM4.out.2.2.2.2.2.1, hk0]
    obtain ⟨gd, cd, hacv, _⟩ := HM4.out.2.2.2.2.2.2.2.2.2.st.kid HM4.out.2.1 hk4
    obtain ⟨ak, ckk, hbcv, _⟩ := row_shape (HM4.out.2.2.2.2.2.2.2.2.2.st.ks b nb2 HM4.out.2.2.1)
    obtain ⟨lc, hlc⟩ : ∃ lc, lc = ca.length := ⟨_, rfl⟩
    obtain ⟨lk, hlk⟩ : ∃ lk, lk = nb2.ks.length := ⟨_, rfl⟩
    have hlc100 : lc ≤ 100 := by have := HL.out.2.2.2.2.2.2.2.2.1; rw [hk0] at this; simp at this; omega
    have HF1 : Hid (∀ V, Below V4.heap.size V4 V → V.cell? ⟨a, 1, none⟩ = some (.slice (some ⟨gd, 0, none⟩) (lc + 1) cd)) := fun V hV => by
      rw [((HM4.out.2.2.2.2.2.2.2.2.2.st.on hV).cells HM4.out.2.1).2.1, hacv, hlc]; simp
    have c4 := HF1.out V4 (Below.refl _ _)
    have HC0 : Hid (V4.drew.cell? ⟨b, 1, none⟩ = some (.slice ak lk ckk)) := by
      show _ = _
      rw [(HM4.out.2.2.2.2.2.2.2.2.2.st.drew.cells HM4.out.2.2.1).2.1, hbcv, hlk]
    have HTk : Hid (Calls Tryz.prog 86 #[.pointer (some ⟨a, 1, none⟩), .int .i64 lc] V4.drew fun e V5 => e = .returned (.pointer (some ⟨d, 0, none⟩)) ∧ V5.cell? ⟨b, 1, none⟩ = some (.slice ak lk ckk) ∧ Hid (∃ na3, na3.its = J ∧ na3.ks = ca ∧ Far w M V5 (upd M4 a na3))) := by
      have ht := far_takeP (K1 := ca) (K2 := []) (p := d) (HM4.out.2.2.2.2.2.2.2.2.2.go (below_drew V4)) HM4.out.2.1 hk4 (by rw [hk4]; simp; omega)
      rw [← hlc] at ht
      refine ht.mono fun e V5 ⟨e1, na3, e2, e3, e4, hF⟩ => ⟨e1, ?_, na3, e2.trans HM4.out.2.2.2.2.1, by rw [e4]; simp, hF⟩
      rw [(hF.st.cells ((upd_other _ _ (Ne.symm HD.out.2.2)).trans HM4.out.2.2.1)).2.1, hbcv, hlk]
    have HIn : Hid (∀ V5 U, (∃ na3, na3.its = J ∧ na3.ks = ca ∧ Far w M V5 (upd M4 a na3)) → Below V5.heap.size V5 U → U.heap[V5.heap.size]? = some (.cells (cP [d]).toArray 82 (0, 0)) → Calls Tryz.prog 70 #[.slice ak lk ckk, .int .i64 0, .slice (some ⟨V5.heap.size, 0, none⟩) 1 1] U fun e V1 => ∃ a' m c V2, e = .returned (.slice a' m c) ∧ (Instr.storeAt 101 (.pointer (some ⟨b, 1, none⟩)) (.slice a' m c)).run Tryz.prog V1 = .ok () V2 ∧ Hid (MovedTo w M q a b (I1 ++ y :: I2) n.ks J ca (x :: nb.its) (d :: nb.ks) (.returned (.tuple #[])) V2)) := fun V5 U ⟨na3, f1, f2, hF⟩ hbu hu => by
      obtain ⟨d1, d2, d3⟩ := HD.out
      have hb5 : upd M4 a na3 b = some nb2 := (upd_other _ _ (Ne.symm d3)).trans HM4.out.2.2.1
      have ht := far_insP (l1 := []) (l2 := nb2.ks) (x := d) hF hbu hb5 rfl (by rw [HN2.out.2.1]; have := HL.out.2.2.2.2.2.2.2.2.2; omega) hu
      rw [hbcv, ← hlk] at ht
      refine ht.mono fun e V1 ⟨a', m, c', V2, e1, hst, n3, e2, e3, e4, hF3⟩ => ⟨a', m, c', V2, e1, hst, ?_⟩
      obtain ⟨g1, g2, g3, g4, g5, g6, g7, g8, g9, g10⟩ := HM4.out
      refine ⟨rfl, _, hF3.st, hF3.ext, ⟨n2, (upd_other _ _ d2).trans ((upd_other _ _ d1).trans g1), g8, g9⟩, ⟨na3, (upd_other _ _ d3).trans (upd_self _ _ _), f1, f2⟩, ⟨n3, upd_self _ _ _, by rw [e2]; exact HN2.out.1, by rw [e4, HN2.out.2.1]; rfl⟩, fun k h1 h2 h3 => (upd_other _ _ h3).trans ((upd_other _ _ h2).trans (g4 k h1 h2 h3))⟩
    have hwl := wraps_i64 (lc : Int) (by omega) (by omega)
    clear HM4 hk0 hk4 hacv hbcv hlc hlk HCc HN2
    go_wp2_with fail
    refine wp_region_noPanic ?_
    refine region_ph (A := fun _ => True) (e1 := 14) (B := (fun V => Below V4.heap.size V4 V)) (e2 := 16) (C := (fun V => V.cell? ⟨b, 1, none⟩ = some (.slice ak lk ckk))) (by kernel_rfl) (⟨trivial, fun _ => below_drew V4, fun _ => HC0.out⟩) (fun hSt => ?_)
    refine take_ph 0 (.pointer (some ⟨b, 0, none⟩)) [] rfl (by kernel_rfl) (fun _ _ _ h => h) (Or.inl ⟨by rfl, ?_⟩) hSt (fun hSn => ?_)
    · intro V _; go_simp
    clear hSt; rename Ph _ _ _ _ _ _ _ => hSt
    simp only [Act.put, List.setIfInBounds_toArray, List.set_cons_zero, List.set_cons_succ]
    refine take_ph 1 (.pointer (some ⟨b, 0, none⟩)) [] rfl (by kernel_rfl) (fun _ _ _ h => h) (Or.inl ⟨by rfl, ?_⟩) hSt (fun hSn => ?_)
    · intro V _; go_simp
    clear hSt; rename Ph _ _ _ _ _ _ _ => hSt
    simp only [Act.put, List.setIfInBounds_toArray, List.set_cons_zero, List.set_cons_succ]
    refine take_ph 2 (.pointer (some ⟨b, 0, none⟩)) [] rfl (by kernel_rfl) (fun _ _ _ h => h) (Or.inl ⟨by rfl, ?_⟩) hSt (fun hSn => ?_)
    · intro V _; go_simp
    clear hSt; rename Ph _ _ _ _ _ _ _ => hSt
    simp only [Act.put, List.setIfInBounds_toArray, List.set_cons_zero, List.set_cons_succ]
    refine take_ph 3 (.pointer (some ⟨b, 1, none⟩)) [] rfl (by kernel_rfl) (fun _ _ _ h => h) (Or.inl ⟨by rfl, ?_⟩) hSt (fun hSn => ?_)
    · intro V _; go_simp
    clear hSt; rename Ph _ _ _ _ _ _ _ => hSt
    simp only [Act.put, List.setIfInBounds_toArray, List.set_cons_zero, List.set_cons_succ]
    refine take_ph 4 (.slice ak lk ckk) [16] rfl (by kernel_rfl) (fun _ _ _ h => h) (Or.inl ⟨by rfl, ?_⟩) hSt (fun hSn => ?_)
    · rintro V ⟨_, hB, hC⟩; have hh := hC (by decide); have e0 := hh; clear hB hC; go_simp
    clear hSt; rename Ph _ _ _ _ _ _ _ => hSt
    simp only [Act.put, List.setIfInBounds_toArray, List.set_cons_zero, List.set_cons_succ]
    refine take_ph 5 (.pointer (some ⟨a, 0, none⟩)) [] rfl (by kernel_rfl) (fun _ _ _ h => h) (Or.inl ⟨by rfl, ?_⟩) hSt (fun hSn => ?_)
    · intro V _; go_simp
    clear hSt; rename Ph _ _ _ _ _ _ _ => hSt
    simp only [Act.put, List.setIfInBounds_toArray, List.set_cons_zero, List.set_cons_succ]
    refine take_ph 6 (.pointer (some ⟨a, 0, none⟩)) [] rfl (by kernel_rfl) (fun _ _ _ h => h) (Or.inl ⟨by rfl, ?_⟩) hSt (fun hSn => ?_)
    · intro V _; go_simp
    clear hSt; rename Ph _ _ _ _ _ _ _ => hSt
    simp only [Act.put, List.setIfInBounds_toArray, List.set_cons_zero, List.set_cons_succ]
    refine take_ph 7 (.pointer (some ⟨a, 1, none⟩)) [] rfl (by kernel_rfl) (fun _ _ _ h => h) (Or.inl ⟨by rfl, ?_⟩) hSt (fun hSn => ?_)
    · intro V _; go_simp
    clear hSt; rename Ph _ _ _ _ _ _ _ => hSt
    simp only [Act.put, List.setIfInBounds_toArray, List.set_cons_zero, List.set_cons_succ]
    refine take_ph 8 (.pointer (some ⟨a, 0, none⟩)) [] rfl (by kernel_rfl) (fun _ _ _ h => h) (Or.inl ⟨by rfl, ?_⟩) hSt (fun hSn => ?_)
    · intro V _; go_simp
    clear hSt; rename Ph _ _ _ _ _ _ _ => hSt
    simp only [Act.put, List.setIfInBounds_toArray, List.set_cons_zero, List.set_cons_succ]
    refine take_ph 9 (.pointer (some ⟨a, 0, none⟩)) [] rfl (by kernel_rfl) (fun _ _ _ h => h) (Or.inl ⟨by rfl, ?_⟩) hSt (fun hSn => ?_)
    · intro V _; go_simp
    clear hSt; rename Ph _ _ _ _ _ _ _ => hSt
    simp only [Act.put, List.setIfInBounds_toArray, List.set_cons_zero, List.set_cons_succ]
    refine take_ph 10 (.pointer (some ⟨a, 1, none⟩)) [] rfl (by kernel_rfl) (fun _ _ _ h => h) (Or.inl ⟨by rfl, ?_⟩) hSt (fun hSn => ?_)
    · intro V _; go_simp
    clear hSt; rename Ph _ _ _ _ _ _ _ => hSt
    simp only [Act.put, List.setIfInBounds_toArray, List.set_cons_zero, List.set_cons_succ]
    refine take_ph 11 (.slice (some ⟨gd, 0, none⟩) (lc + 1) cd) [12, 13, 14] rfl (by kernel_rfl) (fun _ _ _ h => h) (Or.inl ⟨by rfl, ?_⟩) hSt (fun hSn => ?_)
    · rintro V ⟨_, hB, hC⟩; have hh := hB (by decide); have e0 := HF1.out V hh; clear hB hC; go_simp
    clear hSt; rename Ph _ _ _ _ _ _ _ => hSt
    simp only [Act.put, List.setIfInBounds_toArray, List.set_cons_zero, List.set_cons_succ]
    refine take_ph 12 (.int .i64 ((lc : Int) + 1)) [] rfl (by kernel_rfl) (fun _ _ _ h => h) (Or.inl ⟨by rfl, ?_⟩) hSt (fun hSn => ?_)
    · intro V _; go_simp
    clear hSt; rename Ph _ _ _ _ _ _ _ => hSt
    simp only [Act.put, List.setIfInBounds_toArray, List.set_cons_zero, List.set_cons_succ]
    refine take_ph 13 (.int .i64 lc) [] rfl (by kernel_rfl) (fun _ _ _ h => h) (Or.inl ⟨by rfl, ?_⟩) hSt (fun hSn => ?_)
    · intro V _; go_simp
    clear hSt; rename Ph _ _ _ _ _ _ _ => hSt
    simp only [Act.put, List.setIfInBounds_toArray, List.set_cons_zero, List.set_cons_succ]
    refine ready_call_ph 14 rfl (by kernel_rfl) (fun KK hK => ?_)
    go_simp
    go_wp2_with (first | (go_at_call 86; refine HTk.out.mono ?_; rintro e V5 ⟨rfl, hc5, HS5⟩))
    refine hK.out _ _ ?_ (fun hSn => ?_)
    · exact ⟨trivial, fun h => absurd (show true = false from h) (by decide), fun _ => hc5⟩
    clear hK KK hSt; rename Ph _ _ _ _ _ _ _ => hSt
    obtain ⟨U, hU⟩ : ∃ U, U = V5.alloc (.cells (cP [d]).toArray 82) := ⟨_, rfl⟩
    have hrb : Hid (∀ (a : Act) (o : Oper) (z : Operand), o.op = .buildSlice 101 1 #[(0, z)] → a.eval z = .pointer (some ⟨d, 0, none⟩) → (execOp a.eval o).run Tryz.prog V5 = .ok (.value (.slice (some ⟨V5.heap.size, 0, none⟩) 1 1)) U) := fun a o z h1 h2 => by rw [hU]; exact run_buildP V5 d a o z h1 h2
    have HI5 := Lib.hid (HIn.out V5 U HS5.out (by rw [hU]; exact below_alloc V5 _) (by rw [hU]; exact new_blk V5 _))
    have hcU : U.cell? ⟨b, 1, none⟩ = some (.slice ak lk ckk) := by rw [hU]; exact ((below_alloc V5 _).cell (block_lt_of_cell hc5)).trans hc5
    clear hU HIn HTk HS5
    refine ready_ph 15 rfl (by kernel_rfl) rfl (.inl (hrb.out _ _ _ rfl rfl)) (⟨trivial, fun h => absurd (show true = false from h) (by decide), fun _ => hcU⟩) (fun hSn => ?_)
    clear hSt; rename Ph _ _ _ _ _ _ _ => hSt
    simp only [Act.put, List.setIfInBounds_toArray, List.set_cons_zero, List.set_cons_succ]
    refine ready_call_ph 16 rfl (by kernel_rfl) (fun KK hK => ?_)
    go_simp
    go_wp2_with (first | (go_at_call 70; refine HI5.out.mono ?_; rintro e V6 ⟨a7, m7, c7, V7, rfl, hst7, HZ⟩))
    refine hK.out _ _ ?_ (fun hSn => ?_)
    · exact ⟨trivial, fun h => absurd (show true = false from h) (by decide), fun h => absurd (show true = false from h) (by decide)⟩
    clear hK KK hSt; rename Ph _ _ _ _ _ _ _ => hSt
    refine take_ph 17 (.pointer (some ⟨b, 0, none⟩)) [] rfl (by kernel_rfl) (fun _ _ _ h => h) (Or.inl ⟨by rfl, ?_⟩) hSt (fun hSn => ?_)
    · intro V _; go_simp
    clear hSt; rename Ph _ _ _ _ _ _ _ => hSt
    simp only [Act.put, List.setIfInBounds_toArray, List.set_cons_zero, List.set_cons_succ]
    refine take_ph 18 (.pointer (some ⟨b, 1, none⟩)) [] rfl (by kernel_rfl) (fun _ _ _ h => h) (Or.inl ⟨by rfl, ?_⟩) hSt (fun hSn => ?_)
    · intro V _; go_simp
    clear hSt; rename Ph _ _ _ _ _ _ _ => hSt
    simp only [Act.put, List.setIfInBounds_toArray, List.set_cons_zero, List.set_cons_succ]
    refine ready_store_ph 19 rfl (by kernel_rfl) rfl 101 _ _ rfl _ _ rfl rfl (hst7) (⟨trivial, fun h => absurd (show true = false from h) (by decide), fun h => absurd (show true = false from h) (by decide)⟩) (fun hSn => ?_)
    clear hSt; rename Ph _ _ _ _ _ _ _ => hSt
    simp only [Act.put]
    refine done_ph (by kernel_rfl) ?_ _
    clear hSt
    refine NoPanic.normal ?_
    clear HI5 hrb hst7 HC0 HF1
    go_wp2_with fail
    go_end0
    exact HZ.out
end Go.Proofs.YtagamkahfiackaaGreatDoor
