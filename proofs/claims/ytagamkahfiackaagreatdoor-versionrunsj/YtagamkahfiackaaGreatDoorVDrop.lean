/- node.drop, as a tree. -/
import Derived.Test.YtagamkahfiackaaGreatDoorVDrop0
namespace Go.Proofs.YtagamkahfiackaaGreatDoor
open Go.RowKit Go.Sort

def DropTo (w : World) (M : Nat → Option Nd) (h m q : Nat) (l : List It) (F : Nat → Prop) (k : ByteArray) (e : Ending) (w' : World) : Prop :=
  e = .returned (.tuple #[.slice ((get k l).getD vz).a ((get k l).getD vz).n ((get k l).getD vz).c, .bool (get k l).isSome]) ∧ ∃ M' F', Kept M M' F F' w w' ∧ Nod M' h m 7 q (del k l) F'
theorem drop_ : ∀ (h : Nat) {w : World} {M : Nat → Option Nd} {m q : Nat} {l : List It} {F : Nat → Prop} (k : ByteArray), 1 ≤ m → Store w M → Nod M (h + 1) m 7 q l F → Srt l →
    Calls Tryz.prog 49 #[.pointer (some ⟨q, 0, none⟩), .string k] w (DropTo w M (h + 1) (m - 1) q l F k) := by
  intro h
  induction h with
  | zero =>
    intro w M m q l F k hm hs hN hS
    obtain ⟨n, ls, Fk, hq, b1, b2, b3, b4, kk, rfl, hqn, hF⟩ := id hN
    have hks := b3 rfl
    rw [hks] at kk
    obtain ⟨rfl, hno⟩ := kk.nil
    have hSi := hS.items
    rw [weave_nil] at hS hN ⊢
    rcases about hSi k with ⟨I1, u, I3, hy⟩ | ⟨I1, I2, hy⟩
    · have hl : n.its.length = I1.length + I3.length + 1 := by rw [hy.eq]; simp; omega
      refine dr_leaf_yes (k' := k) (u := u) (find_yes hs hq hSi (by omega) hy) (fun V hV => child_none (hs.on hV) hq hks _) fun V hV => ?_
      refine (takeI_ (I1 := I1) (I2 := I3) (hs.on hV) hq hy.eq (by omega)).mono fun e V' ht => ?_
      obtain ⟨v', e1, s1, s2⟩ := ht
      refine ⟨e1, by rw [hy.eq, get_at hy.lo]; rfl, _, F, Kept.one s1 ((Ext.of_below _ hV).trans s2) ((hF q).2 (.inl rfl)), { n with iv := v', its := I1 ++ I3 }, [], fun _ => False, upd_self _ _ _, by simp; omega, by simp; omega, fun _ => hks, fun z => (z rfl).elim, by rw [hks]; exact kids_nil, by rw [weave_nil, hy.eq, del_at hy.lo hy.hi], id, fun y => ?_⟩
      rw [hF y]
      exact ⟨fun q => q.imp id (fun q => hno y q), fun q => q.imp id False.elim⟩
    · refine dr_leaf_not (find_not hs hq hSi (by omega) hy) (fun V hV => child_none (hs.on hV) hq hks _) fun V hV => ?_
      refine ⟨by rw [hy.eq, get_new hy.lo hy.hi]; rfl, M, F, ⟨hs.on hV, Ext.of_below _ hV, fun _ _ _ => rfl, fun _ g => .inl g⟩, ?_⟩
      rw [show del k n.its = n.its by rw [hy.eq, del_new hy.lo hy.hi]]
      exact hN.wide (by omega) (Nat.le_refl _)
  | succ h ih =>
    intro w M m q l F k hm hs hN hS
    obtain ⟨n, ls, Fk, hq, b1, b2, b3, b4, kk, rfl, hqn, hF⟩ := hN
    have hks := b4 (by omega)
    have hSi := hS.items
    have ltq := hs.node_lt hq
    -- both ways lead here: a child at I1 has lost one, and is filled
    have fin : ∀ (I1 I2 : List It) (K1 K2 : List Nat) (p : Nat) (L1 L2 : List (List It)) (F1 Fp F2 : Nat → Prop), I1.length = K1.length → I2.length = K2.length → n.its.length = I1.length + I2.length → n.ks = K1 ++ p :: K2 → Kids (Nod M (h + 1) 3 7) K1 L1 F1 → Kids (Nod M (h + 1) 3 7) K2 L2 F2 → (∀ x, F1 x → ¬ Fp x) → (∀ x, F1 x → ¬ F2 x) → (∀ x, Fp x → ¬ F2 x) → (∀ x, Fk x ↔ F1 x ∨ Fp x ∨ F2 x) →
        ∀ (V V' U : World) (M1 M2 : Nat → Option Nd) (F' : Nat → Prop) (lp' : List It) (n2 : Nd), Below w.heap.size w V → Kept M M1 Fp F' V V' → Nod M1 (h + 1) 2 7 p lp' F' → M2 q = some n2 → n2.its = I1 ++ I2 → n2.ks = n.ks → (∀ k, k ≠ q → M2 k = M1 k) → Store U M2 → Ext (Own M1) (Own M2) V' U →
        Calls Tryz.prog 64 #[.pointer (some ⟨q, 0, none⟩), .int .i64 I1.length] U fun e V2 => e = .returned (.tuple #[]) ∧ ∃ M' F'', Kept M M' F F'' w V2 ∧ Nod M' (h + 1 + 1) (m - 1) 7 q (pre I1 L1 ++ (lp' ++ suf I2 L2)) F'' := by
      intro I1 I2 K1 K2 p L1 L2 F1 Fp F2 hIK hIK2 hnl hK k1 k2 d1 d2 d3 hFk V V' U M1 M2 F' lp' n2 hV hk hN' hq2 hI2 hks2 hoth hsU hxU
      have q1 : ¬ F1 q := fun g => hqn ((hFk q).2 (.inl g))
      have qp : ¬ Fp q := fun g => hqn ((hFk q).2 (.inr (.inl g)))
      have q2 : ¬ F2 q := fun g => hqn ((hFk q).2 (.inr (.inr g)))
      have lt1 := k1.lt hs
      have lt2 := k2.lt hs
      have hsz := hk.ext.size
      have hsV := hV.size
      have keep : ∀ G : Nat → Prop, (∀ x, G x → x < w.heap.size) → ¬ G q → (∀ x, G x → ¬ Fp x) → ∀ x, G x → M2 x = M x := fun G g1 g0 g2 x hx => (hoth x (fun e => g0 (e ▸ hx))).trans (hk.rest x (by have := g1 x hx; omega) (g2 x hx))
      have kk1 := k1.frame (keep F1 lt1 q1 d1)
      have kk2 := k2.frame (keep F2 lt2 q2 (fun x hx g => d3 x g hx))
      have n1 : ∀ x, F1 x → ¬ F' x := fun x hx g => by
        rcases hk.new x g with r | r
        · exact d1 x hx r
        · have := lt1 x hx; omega
      have n3 : ∀ x, F' x → ¬ F2 x := fun x g hx => by
        rcases hk.new x g with r | r
        · exact d3 x r hx
        · have := lt2 x hx; omega
      have nq : ¬ F' q := fun g => by
        rcases hk.new q g with r | r
        · exact qp r
        · omega
      have hNp := hN'.frame (M' := M2) (fun x hx => hoth x fun e => nq (e ▸ hx))
      have hl2 : n2.its.length = n.its.length := by rw [hI2, List.length_append, hnl]
      have hfl := fill_ hsU hq2 hI2 (hks2.trans hK) hIK hIK2 (by omega) (by omega) kk1 hNp kk2 n1 d2 n3 q1 nq q2
      refine hfl.mono fun e2 V3 hh => ?_
      obtain ⟨e3, M3, F'', hk2, hN2⟩ := hh
      refine ⟨e3, M3, F'', ?_, hN2.wide (by omega) (by omega)⟩
      have hsub : ∀ k, (k = q ∨ F1 k ∨ F' k ∨ F2 k) → F k ∨ w.heap.size ≤ k := fun k g => by
        rcases g with rfl | g | g | g
        · exact .inl ((hF _).2 (.inl rfl))
        · exact .inl ((hF k).2 (.inr ((hFk k).2 (.inl g))))
        · rcases hk.new k g with r | r
          · exact .inl ((hF k).2 (.inr ((hFk k).2 (.inr (.inl r)))))
          · exact .inr (by omega)
        · exact .inl ((hF k).2 (.inr ((hFk k).2 (.inr (.inr g)))))
      have hkw : Kept M M1 F (fun k => k = q ∨ F1 k ∨ F' k ∨ F2 k) w V' := (hk.base hV).widen (fun k g => (hF k).2 (.inr ((hFk k).2 (.inr (.inl g))))) hsub
      have hkm : Kept M1 M2 (fun k => k = q ∨ F1 k ∨ F' k ∨ F2 k) (fun k => k = q ∨ F1 k ∨ F' k ∨ F2 k) V' U := ⟨hsU, hxU, fun k _ hn => hoth k fun e => hn (.inl e), fun _ g => .inl g⟩
      exact (hkw.trans hkm hsub).trans hk2 (hkw.trans hkm hsub).new
    rcases about hSi k with ⟨I1, u, I3, hy⟩ | ⟨I1, I2, hy⟩
    · have hl : n.its.length = I1.length + I3.length + 1 := by rw [hy.eq]; simp; omega
      obtain ⟨K1, p, K2, hK, hK1, hK2⟩ : ∃ K1 p K2, n.ks = K1 ++ p :: K2 ∧ K1.length = I1.length ∧ K2.length = I3.length + 1 := by
        refine ⟨n.ks.take I1.length, n.ks[I1.length], n.ks.drop (I1.length + 1), ?_, by rw [List.length_take]; omega, by rw [List.length_drop]; omega⟩
        rw [← List.drop_eq_getElem_cons, List.take_append_drop]
      rw [hK] at kk
      obtain ⟨L1, lp, L2, F1, Fp, F2, rfl, k1, kp, k2, d1, d2, d3, hFk⟩ := kk.at
      have l1 := k1.len
      have l2 := k2.len
      have qp : ¬ Fp q := fun g => hqn ((hFk q).2 (.inr (.inl g)))
      obtain ⟨P', y, rfl⟩ := last_of (show 0 < lp.length by have := kp.full; omega)
      obtain ⟨l', L3, rfl⟩ : ∃ l' L3, L2 = l' :: L3 := by
        cases L2 with
        | nil => rw [List.length_nil] at l2; omega
        | cons l' L3 => exact ⟨l', L3, rfl⟩
      have hw0 : weave n.its (L1 ++ (P' ++ [y]) :: l' :: L3) = (pre I1 L1 ++ (P' ++ [y])) ++ (k, u) :: (l' ++ suf I3 L3) := by
        rw [hy.eq, weave_at I1 ((k, u) :: I3) L1 _ (l' :: L3) (by omega) (by simp at l2 ⊢; omega), suf_cons]
        simp
      rw [hw0] at hS ⊢
      obtain ⟨hlo, hhi⟩ := hS.about_mid
      have hdel := del_at (u := u) hlo hhi
      have hget := get_at (u := u) (S := l' ++ suf I3 L3) hlo
      obtain ⟨g, c, hiv, _, _⟩ := hs.item hq hy.eq
      refine dr_inner_yes (p := p) (g := g) (i3 := I3.length) (c := c) (u := u) y (find_yes hs hq hSi (by omega) hy) (fun V hV => ?_) (fun V hV => ?_) fun V hV => ?_
      · have := child_at (hs.on hV) hq hK
        rw [hK1] at this
        exact this
      · obtain ⟨g', c', e1, _, e2, e3, _⟩ := (hs.on hV).item hq hy.eq
        rw [hiv] at e1
        simp only [Value.slice.injEq, Option.some.injEq, Addr.mk.injEq] at e1
        obtain ⟨⟨rfl, _⟩, _⟩ := e1
        exact ⟨by rw [((hs.on hV).cells hq).1, hiv], e3⟩
      · refine (takeLast_ h (by omega) (hs.on hV) kp).mono fun e V' ht => ?_
        obtain ⟨e1, M1, F', hk, hN'⟩ := ht
        have hsV := hV.size
        have hq1 : M1 q = some n := (hk.rest q (by omega) qp).trans hq
        have hF0 : Far V' M1 V' M1 := ⟨hk.st, Ext.refl _ _⟩
        obtain ⟨V4, hst, hF4⟩ := far_setI y hF0 hq1 hy.eq hiv
        refine ⟨e1, by rw [(hk.st.cells hq1).1, hiv], V4, hst, ?_⟩
        refine (fin I1 (y :: I3) K1 K2 p L1 (l' :: L3) F1 Fp F2 hK1.symm (by simp; omega) (by simp; omega) hK k1 k2 d1 d2 d3 hFk V V' V4 M1 _ F' P' { n with its := I1 ++ y :: I3 } hV hk hN' (upd_self _ _ _) rfl rfl (fun _ hne => upd_other _ _ hne) hF4.st hF4.ext).mono fun e2 V2 hh => ?_
        obtain ⟨e3, M', F'', hk3, hN3⟩ := hh
        refine ⟨e3, by rw [hget]; rfl, M', F'', hk3, ?_⟩
        rw [hdel]
        refine hN3.same ?_ fun _ => Iff.rfl
        rw [suf_cons]
        simp
    · have hl : n.its.length = I1.length + I2.length := by rw [hy.eq]; simp
      obtain ⟨K1, p, K2, hK, hK1, hK2⟩ : ∃ K1 p K2, n.ks = K1 ++ p :: K2 ∧ K1.length = I1.length ∧ K2.length = I2.length := by
        refine ⟨n.ks.take I1.length, n.ks[I1.length], n.ks.drop (I1.length + 1), ?_, by rw [List.length_take]; omega, by rw [List.length_drop]; omega⟩
        rw [← List.drop_eq_getElem_cons, List.take_append_drop]
      rw [hK] at kk
      obtain ⟨L1, lp, L2, F1, Fp, F2, rfl, k1, kp, k2, d1, d2, d3, hFk⟩ := kk.at
      have l1 := k1.len
      have l2 := k2.len
      have hw0 : weave n.its (L1 ++ lp :: L2) = pre I1 L1 ++ (lp ++ suf I2 L2) := by rw [hy.eq]; exact weave_at I1 I2 L1 lp L2 (by omega) (by omega)
      rw [hw0] at hS ⊢
      have hS3 := List.pairwise_append.1 hS
      have hS4 := List.pairwise_append.1 hS3.2.1
      have hPlt := pre_lt I1 L1 hS3.1 hy.lo
      have hSgt := suf_gt I2 L2 hS4.2.1 hy.hi
      refine dr_inner_not (p := p) (hv := (get k (pre I1 L1 ++ (lp ++ suf I2 L2))).getD vz) (hb := (get k (pre I1 L1 ++ (lp ++ suf I2 L2))).isSome) (find_not hs hq hSi (by omega) hy) (fun V hV => ?_) fun V hV => ?_
      · have := child_at (hs.on hV) hq hK
        rw [hK1] at this
        exact this
      · refine (ih k (by omega) (hs.on hV) kp hS4.1).mono fun e V' he => ?_
        obtain ⟨he1, M1, F', hk, hN'⟩ := he
        have qp : ¬ Fp q := fun g => hqn ((hFk q).2 (.inr (.inl g)))
        have hsV := hV.size
        have hq1 : M1 q = some n := (hk.rest q (by omega) qp).trans hq
        refine ⟨by rw [get_mid hPlt hSgt]; exact he1, ?_⟩
        refine (fin I1 I2 K1 K2 p L1 L2 F1 Fp F2 hK1.symm hK2.symm hl hK k1 k2 d1 d2 d3 hFk V V' V' M1 M1 F' (del k lp) n hV hk hN' hq1 hy.eq rfl (fun _ _ => rfl) hk.st (Ext.refl _ _)).mono fun e2 V2 hh => ?_
        obtain ⟨e3, M', F'', hk3, hN3⟩ := hh
        refine ⟨e3, rfl, M', F'', hk3, ?_⟩
        rw [del_mid hPlt hSgt]
        exact hN3
end Go.Proofs.YtagamkahfiackaaGreatDoor
