/- node.joinChildren. -/
import Derived.Test.YtagamkahfiackaaGreatDoorVMovA
namespace Go.Proofs.YtagamkahfiackaaGreatDoor
open Go.RowKit Go.Sort

set_option maxRecDepth 100000 in
set_option maxHeartbeats 2000000 in
theorem join_ {w : World} {M : Nat → Option Nd} {q a b : Nat} {n na nb : Nd} {I1 I2 : List It} {x : It} {K1 K2 : List Nat} (hs : Store w M) (hq : M q = some n) (ha : M a = some na) (hb : M b = some nb) (hqa : q ≠ a) (hqb : q ≠ b) (hab : a ≠ b)
    (hI : n.its = I1 ++ x :: I2) (hK : n.ks = K1 ++ a :: b :: K2) (hIK : I1.length = K1.length) (hn : n.its.length ≤ 100) (hn2 : n.ks.length ≤ 100) (hna : na.its.length ≤ 100) (hnb : nb.its.length ≤ 100) (hna2 : na.ks.length ≤ 100) (hnb2 : nb.ks.length ≤ 100) :
    Calls Tryz.prog 80 #[.pointer (some ⟨q, 0, none⟩), .int .i64 I1.length] w (MovedTo w M q a b (I1 ++ I2) (K1 ++ a :: K2) (na.its ++ x :: nb.its) (na.ks ++ nb.ks) nb.its nb.ks) := by
  obtain ⟨gk, ck, hncv, kA, kB⟩ := hs.kid2 hq hK
  obtain ⟨aa, caa, haiv, _⟩ := row_shape (hs.its a na ha)
  have q1 := (hs.cells hq).2.1
  rw [hncv] at q1
  rw [← hIK] at q1 kA
  have hF0 : Far w M w M := ⟨hs, Ext.refl _ _⟩
  have HK : Hid (Calls Tryz.prog 86 #[.pointer (some ⟨q, 1, none⟩), .int .i64 ((I1.length : Int) + 1)] w fun e V1 => e = .returned (.pointer (some ⟨b, 0, none⟩)) ∧ Hid (∃ n1, n1.its = n.its ∧ n1.iv = n.iv ∧ n1.ks = K1 ++ a :: K2 ∧ Far w M V1 (upd M q n1))) := by
    have ht := far_takeP (K1 := K1 ++ [a]) (K2 := K2) (p := b) hF0 hq (by rw [hK]; simp) (by omega)
    rw [show ((K1 ++ [a]).length : Int) = (I1.length : Int) + 1 by simp; omega] at ht
    exact ht.mono fun e V1 ⟨e1, n1, e2, e3, e4, hF⟩ => ⟨e1, n1, e2, e3, by rw [e4]; simp, hF⟩
  have HQ := Lib.hid hq
  have HA := Lib.hid ha
  have HB := Lib.hid hb
  have HD := Lib.hid (And.intro hqa (And.intro hqb hab))
  have HL := Lib.hid (And.intro hI (And.intro haiv (And.intro hn (And.intro hna (And.intro hnb (And.intro hna2 hnb2))))))
  obtain ⟨i1, hi1⟩ : ∃ i1, i1 = I1.length := ⟨_, rfl⟩
  obtain ⟨k2, hk2⟩ : ∃ k2, k2 = K2.length := ⟨_, rfl⟩
  have HE := Lib.hid hi1
  have hb1 : i1 ≤ 100 := by rw [hI] at hn; simp at hn; omega
  rw [← hi1] at q1 kA HK
  rw [← hk2] at q1
  rw [← hi1]
  have hx0 : (i1 : Int) < (i1 : Int) + (k2 : Int) + 2 := by omega
  have hw1 := wraps_i64 ((i1 : Int) + 1) (by omega) (by omega)
  clear hs hq ha hb hqa hqb hab hI hK hIK hn hn2 hna hnb hna2 hnb2 hncv haiv hi1 hk2 hF0 kB
  go_enter Tryz.func80, Tryz.ntmps80
  go_wp2_with (first
    | (go_at_call 86; refine HK.out.mono ?_; rintro e V1 ⟨rfl, HS1⟩)
    | fail)
  clear HK q1 kA hx0
  obtain ⟨n1, e1, e2, e3, hF1⟩ := HS1.out
  obtain ⟨M1, hM1⟩ : ∃ M1, M1 = upd M q n1 := ⟨_, rfl⟩
  have HM1 : Hid (M1 q = some n1 ∧ M1 a = some na ∧ M1 b = some nb ∧ (∀ k, k ≠ q → M1 k = M k) ∧ n1.its = n.its ∧ n1.ks = K1 ++ a :: K2 ∧ Far w M V1 M1) := by
    rw [hM1]; exact ⟨upd_self _ _ _, (upd_other _ _ (Ne.symm HD.out.1)).trans HA.out, (upd_other _ _ (Ne.symm HD.out.2.1)).trans HB.out, fun k hk => upd_other _ _ hk, e1, e3, hF1⟩
  clear hM1 e1 e2 e3 hF1 HS1 HQ HA HB
  -- left.items = append(left.items, takeAt(&n.items, i))
  obtain ⟨la, hla⟩ : ∃ la, la = na.its.length := ⟨_, rfl⟩
  have HC0 : Hid (V1.drew.cell? ⟨a, 0, none⟩ = some (.slice aa la caa)) := by
    show _ = _
    rw [(HM1.out.2.2.2.2.2.2.st.drew.cells HM1.out.2.1).1, HL.out.2.1, hla]
  have HTk : Hid (Calls Tryz.prog 65 #[.pointer (some ⟨q, 0, none⟩), .int .i64 i1] V1.drew fun e V' => e = .returned (.agg #[.string x.1, .slice x.2.a x.2.n x.2.c]) ∧ V'.cell? ⟨a, 0, none⟩ = some (.slice aa la caa) ∧ Hid (∃ n2, n2.its = I1 ++ I2 ∧ n2.ks = K1 ++ a :: K2 ∧ Far w M V' (upd M1 q n2))) := by
    have ht := far_takeI (I1 := I1) (I2 := I2) (x := x) (HM1.out.2.2.2.2.2.2.go (below_drew V1)) HM1.out.1 (HM1.out.2.2.2.2.1.trans HL.out.1) (by rw [HM1.out.2.2.2.2.1]; have := HL.out.2.2.1; omega)
    rw [← HE.out] at ht
    refine ht.mono fun e V' ⟨e1, n2, e2, e3, e4, hF⟩ => ⟨e1, ?_, n2, e2, e3.trans HM1.out.2.2.2.2.2.1, hF⟩
    rw [(hF.st.cells ((upd_other _ _ (Ne.symm HD.out.1)).trans HM1.out.2.1)).1, HL.out.2.1, hla]
  have HAp : Hid (∀ V2 U, (∃ n2, n2.its = I1 ++ I2 ∧ n2.ks = K1 ++ a :: K2 ∧ Far w M V2 (upd M1 q n2)) → Below V2.heap.size V2 U → U.heap[V2.heap.size]? = some (.cells (cI [x]).toArray 99 (0, 0)) → ∃ a' m c' V3 V4, (Builtin.append_ #[100, 100] 100 #[.slice aa la caa, .slice (some ⟨V2.heap.size, 0, none⟩) 1 1]).run Tryz.prog U = .ok (.slice a' m c') V3 ∧ (Instr.storeAt 100 (.pointer (some ⟨a, 0, none⟩)) (.slice a' m c')).run Tryz.prog V3 = .ok () V4 ∧ Hid (∃ n2 na4 M4, M4 q = some n2 ∧ M4 a = some na4 ∧ M4 b = some nb ∧ (∀ k, k ≠ q → k ≠ a → M4 k = M k) ∧ n2.its = I1 ++ I2 ∧ n2.ks = K1 ++ a :: K2 ∧ na4.its = na.its ++ [x] ∧ na4.ks = na.ks ∧ Far w M V4 M4)) := fun V2 U ⟨n2, f1, f2, hF⟩ hbu hu => by
    obtain ⟨d1, d2, d3⟩ := HD.out
    have ha5 : upd M1 q n2 a = some na := (upd_other _ _ (Ne.symm d1)).trans HM1.out.2.1
    have hrow : RowI U (.slice (some ⟨V2.heap.size, 0, none⟩) 1 1) [x] := row_mk hu (Nat.le_refl 1) (by unfold maxLen; omega) (by simp [cI]) (by simp [cI])
    obtain ⟨a', m, c', V3, V4, hap, hst, n3, e2, e3, e4, hF3⟩ := far_appI (xs := [x]) (hF.go hbu) ha5 (by have := HL.out.2.2.2.1; simp; omega) hrow 100
    rw [HL.out.2.1, ← hla] at hap
    refine ⟨a', m, c', V3, V4, hap, hst, n2, n3, _, (upd_other _ _ d1).trans (upd_self _ _ _), upd_self _ _ _, (upd_other _ _ (Ne.symm d3)).trans ((upd_other _ _ (Ne.symm d2)).trans HM1.out.2.2.1), fun k h1 h2 => (upd_other _ _ h2).trans ((upd_other _ _ h1).trans (HM1.out.2.2.2.1 k h1)), f1, f2, e2, e3, hF3⟩
  clear hla
  refine wp_region_noPanic ?_
  refine region_ph (A := fun _ => True) (e1 := 9) (B := (fun _ => True)) (e2 := 11) (C := (fun V => V.cell? ⟨a, 0, none⟩ = some (.slice aa la caa))) (by kernel_rfl) (⟨trivial, fun _ => trivial, fun _ => HC0.out⟩) (fun hSt => ?_)
  refine take_ph 0 (.pointer (some ⟨a, 0, none⟩)) [] rfl (by kernel_rfl) (fun _ _ _ h => h) (Or.inl ⟨by rfl, ?_⟩) hSt (fun hSn => ?_)
  · intro V _; go_simp
  clear hSt; rename Ph _ _ _ _ _ _ _ => hSt
  simp only [Act.put, List.setIfInBounds_toArray, List.set_cons_zero, List.set_cons_succ]
  refine take_ph 1 (.pointer (some ⟨a, 0, none⟩)) [] rfl (by kernel_rfl) (fun _ _ _ h => h) (Or.inl ⟨by rfl, ?_⟩) hSt (fun hSn => ?_)
  · intro V _; go_simp
  clear hSt; rename Ph _ _ _ _ _ _ _ => hSt
  simp only [Act.put, List.setIfInBounds_toArray, List.set_cons_zero, List.set_cons_succ]
  refine take_ph 2 (.pointer (some ⟨a, 0, none⟩)) [] rfl (by kernel_rfl) (fun _ _ _ h => h) (Or.inl ⟨by rfl, ?_⟩) hSt (fun hSn => ?_)
  · intro V _; go_simp
  clear hSt; rename Ph _ _ _ _ _ _ _ => hSt
  simp only [Act.put, List.setIfInBounds_toArray, List.set_cons_zero, List.set_cons_succ]
  refine take_ph 3 (.pointer (some ⟨a, 0, none⟩)) [] rfl (by kernel_rfl) (fun _ _ _ h => h) (Or.inl ⟨by rfl, ?_⟩) hSt (fun hSn => ?_)
  · intro V _; go_simp
  clear hSt; rename Ph _ _ _ _ _ _ _ => hSt
  simp only [Act.put, List.setIfInBounds_toArray, List.set_cons_zero, List.set_cons_succ]
  refine take_ph 4 (.slice aa la caa) [11] rfl (by kernel_rfl) (fun _ _ _ h => h) (Or.inl ⟨by rfl, ?_⟩) hSt (fun hSn => ?_)
  · rintro V ⟨_, hB, hC⟩; have hh := hC (by decide); have e0 := hh; clear hB hC; go_simp
  clear hSt; rename Ph _ _ _ _ _ _ _ => hSt
  simp only [Act.put, List.setIfInBounds_toArray, List.set_cons_zero, List.set_cons_succ]
  refine take_ph 5 (.pointer (some ⟨q, 0, none⟩)) [] rfl (by kernel_rfl) (fun _ _ _ h => h) (Or.inl ⟨by rfl, ?_⟩) hSt (fun hSn => ?_)
  · intro V _; go_simp
  clear hSt; rename Ph _ _ _ _ _ _ _ => hSt
  simp only [Act.put, List.setIfInBounds_toArray, List.set_cons_zero, List.set_cons_succ]
  refine take_ph 6 (.pointer (some ⟨q, 0, none⟩)) [] rfl (by kernel_rfl) (fun _ _ _ h => h) (Or.inl ⟨by rfl, ?_⟩) hSt (fun hSn => ?_)
  · intro V _; go_simp
  clear hSt; rename Ph _ _ _ _ _ _ _ => hSt
  simp only [Act.put, List.setIfInBounds_toArray, List.set_cons_zero, List.set_cons_succ]
  refine take_ph 7 (.pointer (some ⟨q, 0, none⟩)) [] rfl (by kernel_rfl) (fun _ _ _ h => h) (Or.inl ⟨by rfl, ?_⟩) hSt (fun hSn => ?_)
  · intro V _; go_simp
  clear hSt; rename Ph _ _ _ _ _ _ _ => hSt
  simp only [Act.put, List.setIfInBounds_toArray, List.set_cons_zero, List.set_cons_succ]
  refine take_ph 8 (.int .i64 i1) [] rfl (by kernel_rfl) (fun _ _ _ h => h) (Or.inl ⟨by rfl, ?_⟩) hSt (fun hSn => ?_)
  · intro V _; go_simp
  clear hSt; rename Ph _ _ _ _ _ _ _ => hSt
  simp only [Act.put, List.setIfInBounds_toArray, List.set_cons_zero, List.set_cons_succ]
  refine ready_call_ph 9 rfl (by kernel_rfl) (fun KK hK => ?_)
  go_simp
  go_wp2_with (first | (go_at_call 65; refine HTk.out.mono ?_; rintro e V2 ⟨rfl, hc2, HS2⟩))
  refine hK.out _ _ ?_ (fun hSn => ?_)
  · exact ⟨trivial, fun _ => trivial, fun _ => hc2⟩
  clear hK KK hSt; rename Ph _ _ _ _ _ _ _ => hSt
  obtain ⟨U, hU⟩ : ∃ U, U = V2.alloc (.cells (cI [x]).toArray 99) := ⟨_, rfl⟩
  have hrb : Hid (∀ (a : Act) (o : Oper) (z : Operand), o.op = .buildSlice 100 1 #[(0, z)] → a.eval z = itV x → (execOp a.eval o).run Tryz.prog V2 = .ok (.value (.slice (some ⟨V2.heap.size, 0, none⟩) 1 1)) U) := fun a o z h1 h2 => by rw [hU]; exact run_buildI V2 x a o z h1 h2
  obtain ⟨a7, m7, c7, V3, V4, hap, hst4, HS4⟩ := HAp.out V2 U HS2.out (by rw [hU]; exact below_alloc V2 _) (by rw [hU]; exact new_blk V2 _)
  have hcU : U.cell? ⟨a, 0, none⟩ = some (.slice aa la caa) := by rw [hU]; exact ((below_alloc V2 _).cell (block_lt_of_cell hc2)).trans hc2
  clear hU HAp HTk HS2
  refine ready_ph 10 rfl (by kernel_rfl) rfl (.inl (hrb.out _ _ _ rfl rfl)) (⟨trivial, fun _ => trivial, fun _ => hcU⟩) (fun hSn => ?_)
  clear hSt; rename Ph _ _ _ _ _ _ _ => hSt
  simp only [Act.put, List.setIfInBounds_toArray, List.set_cons_zero, List.set_cons_succ]
  refine ready_ph 11 rfl (by kernel_rfl) rfl (.inl (exec_append rfl rfl rfl hap)) (⟨trivial, fun _ => trivial, fun h => absurd (show true = false from h) (by decide)⟩) (fun hSn => ?_)
  clear hSt; rename Ph _ _ _ _ _ _ _ => hSt
  simp only [Act.put, List.setIfInBounds_toArray, List.set_cons_zero, List.set_cons_succ]
  refine take_ph 12 (.pointer (some ⟨a, 0, none⟩)) [] rfl (by kernel_rfl) (fun _ _ _ h => h) (Or.inl ⟨by rfl, ?_⟩) hSt (fun hSn => ?_)
  · intro V _; go_simp
  clear hSt; rename Ph _ _ _ _ _ _ _ => hSt
  simp only [Act.put, List.setIfInBounds_toArray, List.set_cons_zero, List.set_cons_succ]
  refine take_ph 13 (.pointer (some ⟨a, 0, none⟩)) [] rfl (by kernel_rfl) (fun _ _ _ h => h) (Or.inl ⟨by rfl, ?_⟩) hSt (fun hSn => ?_)
  · intro V _; go_simp
  clear hSt; rename Ph _ _ _ _ _ _ _ => hSt
  simp only [Act.put, List.setIfInBounds_toArray, List.set_cons_zero, List.set_cons_succ]
  refine ready_store_ph 14 rfl (by kernel_rfl) rfl 100 _ _ rfl _ _ rfl rfl (hst4) (⟨trivial, fun _ => trivial, fun h => absurd (show true = false from h) (by decide)⟩) (fun hSn => ?_)
  clear hSt; rename Ph _ _ _ _ _ _ _ => hSt
  simp only [Act.put]
  refine done_ph (by kernel_rfl) ?_ _
  clear hSt
  refine NoPanic.normal ?_
  clear hap hrb hst4 HC0 hc2 hcU HM1
  go_wp2_with fail
  obtain ⟨n2, na4, M4, g1, g2, g3, g4, g5, g6, g7, g8, hF4⟩ := HS4.out
  have HM4 := Lib.hid (And.intro g1 (And.intro g2 (And.intro g3 (And.intro g4 (And.intro g5 (And.intro g6 (And.intro g7 (And.intro g8 hF4))))))))
  clear g1 g2 g3 g4 g5 g6 g7 g8 hF4 HS4
  -- left.items = append(left.items, right.items...)
  obtain ⟨a4, c4, h4iv, _⟩ := row_shape (HM4.out.2.2.2.2.2.2.2.2.st.its a na4 HM4.out.2.1)
  obtain ⟨b4, c4b, h4b, _⟩ := row_shape (HM4.out.2.2.2.2.2.2.2.2.st.its b nb HM4.out.2.2.1)
  obtain ⟨l4, hl4⟩ : ∃ l4, l4 = na4.its.length := ⟨_, rfl⟩
  obtain ⟨lb, hlb⟩ : ∃ lb, lb = nb.its.length := ⟨_, rfl⟩
  have F1 : Hid (∀ V, Below V4.heap.size V4 V → V.cell? ⟨a, 0, none⟩ = some (.slice a4 l4 c4)) := fun V hV => by
    rw [((HM4.out.2.2.2.2.2.2.2.2.st.on hV).cells HM4.out.2.1).1, h4iv, hl4]
  have F2 : Hid (∀ V, Below V4.heap.size V4 V → V.cell? ⟨b, 0, none⟩ = some (.slice b4 lb c4b)) := fun V hV => by
    rw [((HM4.out.2.2.2.2.2.2.2.2.st.on hV).cells HM4.out.2.2.1).1, h4b, hlb]
  obtain ⟨a5, m5, c5, V5, V6, hap, hst6, na6, e2, e3, e4, hF6⟩ := far_appI (xs := nb.its) (HM4.out.2.2.2.2.2.2.2.2.go (below_drew V4)) HM4.out.2.1 (by rw [HM4.out.2.2.2.2.2.2.1]; have := HL.out.2.2.2.1; have := HL.out.2.2.2.2.1; simp; omega) (HM4.out.2.2.2.2.2.2.2.2.st.drew.its b nb HM4.out.2.2.1) 100
  rw [h4iv, h4b, ← hl4, ← hlb] at hap
  obtain ⟨M6, hM6⟩ : ∃ M6, M6 = upd M4 a na6 := ⟨_, rfl⟩
  have HM6 : Hid (M6 q = some n2 ∧ M6 a = some na6 ∧ M6 b = some nb ∧ (∀ k, k ≠ q → k ≠ a → M6 k = M k) ∧ n2.its = I1 ++ I2 ∧ n2.ks = K1 ++ a :: K2 ∧ na6.its = na.its ++ x :: nb.its ∧ na6.ks = na.ks ∧ Far w M V6 M6) := by
    obtain ⟨d1, d2, d3⟩ := HD.out
    obtain ⟨g1, g2, g3, g4, g5, g6, g7, g8, g9⟩ := HM4.out
    rw [hM6]
    exact ⟨(upd_other _ _ d1).trans g1, upd_self _ _ _, (upd_other _ _ (Ne.symm d3)).trans g3, fun k h1 h2 => (upd_other _ _ h2).trans (g4 k h1 h2), g5, g6, by rw [e2, g7]; simp, e3.trans g8, hF6⟩
  clear hM6 e2 e3 e4 hF6 HM4 h4iv h4b hl4 hlb
  refine wp_region_noPanic ?_
  refine region_ph (A := fun _ => True) (e1 := 9) (B := (fun V => Below V4.heap.size V4 V)) (e2 := 9) (C := (fun _ => True)) (by kernel_rfl) (⟨trivial, fun _ => below_drew V4, fun _ => trivial⟩) (fun hSt => ?_)
  refine take_ph 0 (.pointer (some ⟨a, 0, none⟩)) [] rfl (by kernel_rfl) (fun _ _ _ h => h) (Or.inl ⟨by rfl, ?_⟩) hSt (fun hSn => ?_)
  · intro V _; go_simp
  clear hSt; rename Ph _ _ _ _ _ _ _ => hSt
  simp only [Act.put, List.setIfInBounds_toArray, List.set_cons_zero, List.set_cons_succ]
  refine take_ph 1 (.pointer (some ⟨a, 0, none⟩)) [] rfl (by kernel_rfl) (fun _ _ _ h => h) (Or.inl ⟨by rfl, ?_⟩) hSt (fun hSn => ?_)
  · intro V _; go_simp
  clear hSt; rename Ph _ _ _ _ _ _ _ => hSt
  simp only [Act.put, List.setIfInBounds_toArray, List.set_cons_zero, List.set_cons_succ]
  refine take_ph 2 (.pointer (some ⟨a, 0, none⟩)) [] rfl (by kernel_rfl) (fun _ _ _ h => h) (Or.inl ⟨by rfl, ?_⟩) hSt (fun hSn => ?_)
  · intro V _; go_simp
  clear hSt; rename Ph _ _ _ _ _ _ _ => hSt
  simp only [Act.put, List.setIfInBounds_toArray, List.set_cons_zero, List.set_cons_succ]
  refine take_ph 3 (.pointer (some ⟨a, 0, none⟩)) [] rfl (by kernel_rfl) (fun _ _ _ h => h) (Or.inl ⟨by rfl, ?_⟩) hSt (fun hSn => ?_)
  · intro V _; go_simp
  clear hSt; rename Ph _ _ _ _ _ _ _ => hSt
  simp only [Act.put, List.setIfInBounds_toArray, List.set_cons_zero, List.set_cons_succ]
  refine take_ph 4 (.slice a4 l4 c4) [9] rfl (by kernel_rfl) (fun _ _ _ h => h) (Or.inl ⟨by rfl, ?_⟩) hSt (fun hSn => ?_)
  · rintro V ⟨_, hB, hC⟩; have hh := hB (by decide); have e0 := F1.out V hh; clear hB hC; go_simp
  clear hSt; rename Ph _ _ _ _ _ _ _ => hSt
  simp only [Act.put, List.setIfInBounds_toArray, List.set_cons_zero, List.set_cons_succ]
  refine take_ph 5 (.pointer (some ⟨b, 0, none⟩)) [] rfl (by kernel_rfl) (fun _ _ _ h => h) (Or.inl ⟨by rfl, ?_⟩) hSt (fun hSn => ?_)
  · intro V _; go_simp
  clear hSt; rename Ph _ _ _ _ _ _ _ => hSt
  simp only [Act.put, List.setIfInBounds_toArray, List.set_cons_zero, List.set_cons_succ]
  refine take_ph 6 (.pointer (some ⟨b, 0, none⟩)) [] rfl (by kernel_rfl) (fun _ _ _ h => h) (Or.inl ⟨by rfl, ?_⟩) hSt (fun hSn => ?_)
  · intro V _; go_simp
  clear hSt; rename Ph _ _ _ _ _ _ _ => hSt
  simp only [Act.put, List.setIfInBounds_toArray, List.set_cons_zero, List.set_cons_succ]
  refine take_ph 7 (.pointer (some ⟨b, 0, none⟩)) [] rfl (by kernel_rfl) (fun _ _ _ h => h) (Or.inl ⟨by rfl, ?_⟩) hSt (fun hSn => ?_)
  · intro V _; go_simp
  clear hSt; rename Ph _ _ _ _ _ _ _ => hSt
  simp only [Act.put, List.setIfInBounds_toArray, List.set_cons_zero, List.set_cons_succ]
  refine take_ph 8 (.slice b4 lb c4b) [9] rfl (by kernel_rfl) (fun _ _ _ h => h) (Or.inl ⟨by rfl, ?_⟩) hSt (fun hSn => ?_)
  · rintro V ⟨_, hB, hC⟩; have hh := hB (by decide); have e0 := F2.out V hh; clear hB hC; go_simp
  clear hSt; rename Ph _ _ _ _ _ _ _ => hSt
  simp only [Act.put, List.setIfInBounds_toArray, List.set_cons_zero, List.set_cons_succ]
  refine ready_ph 9 rfl (by kernel_rfl) rfl (.inl (exec_append rfl rfl rfl hap)) (⟨trivial, fun h => absurd (show true = false from h) (by decide), fun _ => trivial⟩) (fun hSn => ?_)
  clear hSt; rename Ph _ _ _ _ _ _ _ => hSt
  simp only [Act.put, List.setIfInBounds_toArray, List.set_cons_zero, List.set_cons_succ]
  refine take_ph 10 (.pointer (some ⟨a, 0, none⟩)) [] rfl (by kernel_rfl) (fun _ _ _ h => h) (Or.inl ⟨by rfl, ?_⟩) hSt (fun hSn => ?_)
  · intro V _; go_simp
  clear hSt; rename Ph _ _ _ _ _ _ _ => hSt
  simp only [Act.put, List.setIfInBounds_toArray, List.set_cons_zero, List.set_cons_succ]
  refine take_ph 11 (.pointer (some ⟨a, 0, none⟩)) [] rfl (by kernel_rfl) (fun _ _ _ h => h) (Or.inl ⟨by rfl, ?_⟩) hSt (fun hSn => ?_)
  · intro V _; go_simp
  clear hSt; rename Ph _ _ _ _ _ _ _ => hSt
  simp only [Act.put, List.setIfInBounds_toArray, List.set_cons_zero, List.set_cons_succ]
  refine ready_store_ph 12 rfl (by kernel_rfl) rfl 100 _ _ rfl _ _ rfl rfl (hst6) (⟨trivial, fun h => absurd (show true = false from h) (by decide), fun _ => trivial⟩) (fun hSn => ?_)
  clear hSt; rename Ph _ _ _ _ _ _ _ => hSt
  simp only [Act.put]
  refine done_ph (by kernel_rfl) ?_ _
  clear hSt
  refine NoPanic.normal ?_
  clear F1 F2 hap hst6
  go_wp2_with fail
  -- left.children = append(left.children, right.children...)
  obtain ⟨a6, c6, h6cv, _⟩ := row_shape (HM6.out.2.2.2.2.2.2.2.2.st.ks a na6 HM6.out.2.1)
  obtain ⟨b6, c6b, h6b, _⟩ := row_shape (HM6.out.2.2.2.2.2.2.2.2.st.ks b nb HM6.out.2.2.1)
  obtain ⟨l6, hl6⟩ : ∃ l6, l6 = na6.ks.length := ⟨_, rfl⟩
  obtain ⟨lb6, hlb6⟩ : ∃ lb6, lb6 = nb.ks.length := ⟨_, rfl⟩
  have F1 : Hid (∀ V, Below V6.heap.size V6 V → V.cell? ⟨a, 1, none⟩ = some (.slice a6 l6 c6)) := fun V hV => by
    rw [((HM6.out.2.2.2.2.2.2.2.2.st.on hV).cells HM6.out.2.1).2.1, h6cv, hl6]
  have F2 : Hid (∀ V, Below V6.heap.size V6 V → V.cell? ⟨b, 1, none⟩ = some (.slice b6 lb6 c6b)) := fun V hV => by
    rw [((HM6.out.2.2.2.2.2.2.2.2.st.on hV).cells HM6.out.2.2.1).2.1, h6b, hlb6]
  obtain ⟨a8, m8, c8, V7, V8, hap, hst8, na8, e2, e3, e4, hF8⟩ := far_appP (xs := nb.ks) (HM6.out.2.2.2.2.2.2.2.2.go (below_drew V6)) HM6.out.2.1 (by rw [HM6.out.2.2.2.2.2.2.2.1]; have := HL.out.2.2.2.2.2.1; have := HL.out.2.2.2.2.2.2; omega) (HM6.out.2.2.2.2.2.2.2.2.st.drew.ks b nb HM6.out.2.2.1) 101
  rw [h6cv, h6b, ← hl6, ← hlb6] at hap
  have HZ : Hid (MovedTo w M q a b (I1 ++ I2) (K1 ++ a :: K2) (na.its ++ x :: nb.its) (na.ks ++ nb.ks) nb.its nb.ks (.returned (.tuple #[])) V8) := by
    obtain ⟨d1, d2, d3⟩ := HD.out
    obtain ⟨g1, g2, g3, g4, g5, g6, g7, g8, g9⟩ := HM6.out
    exact ⟨rfl, _, hF8.st, hF8.ext, ⟨n2, (upd_other _ _ d1).trans g1, g5, g6⟩, ⟨na8, upd_self _ _ _, e2.trans g7, by rw [e4, g8]⟩, ⟨nb, (upd_other _ _ (Ne.symm d3)).trans g3, rfl, rfl⟩, fun k h1 h2 _ => (upd_other _ _ h2).trans (g4 k h1 h2)⟩
  clear e2 e3 e4 hF8 HM6 h6cv h6b hl6 hlb6
  refine wp_region_noPanic ?_
  refine region_ph (A := fun _ => True) (e1 := 9) (B := (fun V => Below V6.heap.size V6 V)) (e2 := 9) (C := (fun _ => True)) (by kernel_rfl) (⟨trivial, fun _ => below_drew V6, fun _ => trivial⟩) (fun hSt => ?_)
  refine take_ph 0 (.pointer (some ⟨a, 0, none⟩)) [] rfl (by kernel_rfl) (fun _ _ _ h => h) (Or.inl ⟨by rfl, ?_⟩) hSt (fun hSn => ?_)
  · intro V _; go_simp
  clear hSt; rename Ph _ _ _ _ _ _ _ => hSt
  simp only [Act.put, List.setIfInBounds_toArray, List.set_cons_zero, List.set_cons_succ]
  refine take_ph 1 (.pointer (some ⟨a, 0, none⟩)) [] rfl (by kernel_rfl) (fun _ _ _ h => h) (Or.inl ⟨by rfl, ?_⟩) hSt (fun hSn => ?_)
  · intro V _; go_simp
  clear hSt; rename Ph _ _ _ _ _ _ _ => hSt
  simp only [Act.put, List.setIfInBounds_toArray, List.set_cons_zero, List.set_cons_succ]
  refine take_ph 2 (.pointer (some ⟨a, 0, none⟩)) [] rfl (by kernel_rfl) (fun _ _ _ h => h) (Or.inl ⟨by rfl, ?_⟩) hSt (fun hSn => ?_)
  · intro V _; go_simp
  clear hSt; rename Ph _ _ _ _ _ _ _ => hSt
  simp only [Act.put, List.setIfInBounds_toArray, List.set_cons_zero, List.set_cons_succ]
  refine take_ph 3 (.pointer (some ⟨a, 1, none⟩)) [] rfl (by kernel_rfl) (fun _ _ _ h => h) (Or.inl ⟨by rfl, ?_⟩) hSt (fun hSn => ?_)
  · intro V _; go_simp
  clear hSt; rename Ph _ _ _ _ _ _ _ => hSt
  simp only [Act.put, List.setIfInBounds_toArray, List.set_cons_zero, List.set_cons_succ]
  refine take_ph 4 (.slice a6 l6 c6) [9] rfl (by kernel_rfl) (fun _ _ _ h => h) (Or.inl ⟨by rfl, ?_⟩) hSt (fun hSn => ?_)
  · rintro V ⟨_, hB, hC⟩; have hh := hB (by decide); have e0 := F1.out V hh; clear hB hC; go_simp
  clear hSt; rename Ph _ _ _ _ _ _ _ => hSt
  simp only [Act.put, List.setIfInBounds_toArray, List.set_cons_zero, List.set_cons_succ]
  refine take_ph 5 (.pointer (some ⟨b, 0, none⟩)) [] rfl (by kernel_rfl) (fun _ _ _ h => h) (Or.inl ⟨by rfl, ?_⟩) hSt (fun hSn => ?_)
  · intro V _; go_simp
  clear hSt; rename Ph _ _ _ _ _ _ _ => hSt
  simp only [Act.put, List.setIfInBounds_toArray, List.set_cons_zero, List.set_cons_succ]
  refine take_ph 6 (.pointer (some ⟨b, 0, none⟩)) [] rfl (by kernel_rfl) (fun _ _ _ h => h) (Or.inl ⟨by rfl, ?_⟩) hSt (fun hSn => ?_)
  · intro V _; go_simp
  clear hSt; rename Ph _ _ _ _ _ _ _ => hSt
  simp only [Act.put, List.setIfInBounds_toArray, List.set_cons_zero, List.set_cons_succ]
  refine take_ph 7 (.pointer (some ⟨b, 1, none⟩)) [] rfl (by kernel_rfl) (fun _ _ _ h => h) (Or.inl ⟨by rfl, ?_⟩) hSt (fun hSn => ?_)
  · intro V _; go_simp
  clear hSt; rename Ph _ _ _ _ _ _ _ => hSt
  simp only [Act.put, List.setIfInBounds_toArray, List.set_cons_zero, List.set_cons_succ]
  refine take_ph 8 (.slice b6 lb6 c6b) [9] rfl (by kernel_rfl) (fun _ _ _ h => h) (Or.inl ⟨by rfl, ?_⟩) hSt (fun hSn => ?_)
  · rintro V ⟨_, hB, hC⟩; have hh := hB (by decide); have e0 := F2.out V hh; clear hB hC; go_simp
  clear hSt; rename Ph _ _ _ _ _ _ _ => hSt
  simp only [Act.put, List.setIfInBounds_toArray, List.set_cons_zero, List.set_cons_succ]
  refine ready_ph 9 rfl (by kernel_rfl) rfl (.inl (exec_append rfl rfl rfl hap)) (⟨trivial, fun h => absurd (show true = false from h) (by decide), fun _ => trivial⟩) (fun hSn => ?_)
  clear hSt; rename Ph _ _ _ _ _ _ _ => hSt
  simp only [Act.put, List.setIfInBounds_toArray, List.set_cons_zero, List.set_cons_succ]
  refine take_ph 10 (.pointer (some ⟨a, 0, none⟩)) [] rfl (by kernel_rfl) (fun _ _ _ h => h) (Or.inl ⟨by rfl, ?_⟩) hSt (fun hSn => ?_)
  · intro V _; go_simp
  clear hSt; rename Ph _ _ _ _ _ _ _ => hSt
  simp only [Act.put, List.setIfInBounds_toArray, List.set_cons_zero, List.set_cons_succ]
  refine take_ph 11 (.pointer (some ⟨a, 1, none⟩)) [] rfl (by kernel_rfl) (fun _ _ _ h => h) (Or.inl ⟨by rfl, ?_⟩) hSt (fun hSn => ?_)
  · intro V _; go_simp
  clear hSt; rename Ph _ _ _ _ _ _ _ => hSt
  simp only [Act.put, List.setIfInBounds_toArray, List.set_cons_zero, List.set_cons_succ]
  refine ready_store_ph 12 rfl (by kernel_rfl) rfl 101 _ _ rfl _ _ rfl rfl (hst8) (⟨trivial, fun h => absurd (show true = false from h) (by decide), fun _ => trivial⟩) (fun hSn => ?_)
  clear hSt; rename Ph _ _ _ _ _ _ _ => hSt
  simp only [Act.put]
  refine done_ph (by kernel_rfl) ?_ _
  clear hSt
  refine NoPanic.normal ?_
  clear F1 F2 hap hst8
  go_wp2_with fail
  go_end0
  exact HZ.out
end Go.Proofs.YtagamkahfiackaaGreatDoor
