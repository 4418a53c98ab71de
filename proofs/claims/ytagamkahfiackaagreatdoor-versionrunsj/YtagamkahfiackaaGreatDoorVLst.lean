/- node.takeLast, as a tree. -/
import Derived.Test.YtagamkahfiackaaGreatDoorVLst0
namespace Go.Proofs.YtagamkahfiackaaGreatDoor
open Go.RowKit Go.Sort

def TakeTo (w : World) (M : Nat → Option Nd) (h m q : Nat) (P : List It) (x : It) (F : Nat → Prop) (e : Ending) (w' : World) : Prop :=
  e = .returned (itV x) ∧ ∃ M' F', Kept M M' F F' w w' ∧ Nod M' h m 7 q P F'
theorem box_done {w V V' : World} {M M' : Nat → Option Nd} (h : Store w M) (hV : Below w.heap.size w V) (hb : V.heap[w.heap.size]? = some (.cells #[.string ⟨#[]⟩, .slice none 0 0] 99 (0, 0))) (hx : Ext (Own M) (Own M') V V') (s : Store V' M') (x : It) :
    ∃ V2, (Instr.storeAt 99 (.pointer (some ⟨w.heap.size, 0, none⟩)) (.agg #[.string x.1, .slice x.2.a x.2.n x.2.c])).run Tryz.prog V' = .ok () V2 ∧ V2.cell? ⟨w.heap.size, 0, none⟩ = some (.string x.1) ∧ V2.cell? ⟨w.heap.size, 1, none⟩ = some (.slice x.2.a x.2.n x.2.c) ∧ Store V2 M' ∧ Ext (Own M) (Own M') w V2 := by
  obtain ⟨n1, n2⟩ := hx.mine h (Nat.le_refl _) hb
  have n3 := heap_set (o := 1) (.slice x.2.a x.2.n x.2.c) (heap_set (o := 0) (.string x.1) n1)
  exact ⟨_, store_item rfl rfl (cell_of n1 rfl) (cell_of n1 rfl) (frozen_of n1) (frozen_of n1), cell_of n3 rfl, cell_of n3 rfl, (s.far n2).far n2, (((Ext.of_below _ hV).trans hx).far (Nat.le_refl _)).far (Nat.le_refl _)⟩
theorem Kept.to {M M' : Nat → Option Nd} {F F' : Nat → Prop} {w w' w'' : World} (h : Kept M M' F F' w w') (hs : Store w'' M') (hx : Ext (Own M) (Own M') w w'') : Kept M M' F F' w w'' := ⟨hs, hx, h.rest, h.new⟩
/-- What stands below a node is there. -/
theorem Nod.full {M : Nat → Option Nd} {h m mx q : Nat} {l : List It} {F : Nat → Prop} (hN : Nod M h m mx q l F) : m ≤ l.length := by
  cases h with
  | zero => exact hN.elim
  | succ h =>
    obtain ⟨n, ls, Fk, _, h2, _, _, _, _, rfl, _⟩ := hN
    exact Nat.le_trans h2 (weave_sub n.its ls).length_le
theorem append_last {P A B : List It} {x y : It} (h : P ++ [x] = A ++ (B ++ [y])) : P = A ++ B ∧ x = y := by
  rw [← List.append_assoc] at h
  obtain ⟨h1, h2⟩ := List.append_inj' h rfl
  exact ⟨h1, by simpa using h2⟩
theorem takeLast_ : ∀ (h : Nat) {w : World} {M : Nat → Option Nd} {m q : Nat} {P : List It} {x : It} {F : Nat → Prop}, 1 ≤ m → Store w M → Nod M (h + 1) m 7 q (P ++ [x]) F →
    Calls Tryz.prog 63 #[.pointer (some ⟨q, 0, none⟩)] w (TakeTo w M (h + 1) (m - 1) q P x F) := by
  intro h
  induction h with
  | zero =>
    intro w M m q P x F hm hs hN
    obtain ⟨n, ls, Fk, hq, b1, b2, b3, b4, kk, hl, hqn, hF⟩ := hN
    have hks := b3 rfl
    rw [hks] at kk
    obtain ⟨rfl, hno⟩ := kk.nil
    rw [weave_nil] at hl
    have hnl : n.its.length = P.length + 1 := by rw [← hl]; simp
    obtain ⟨ai, ci, c0⟩ := items_cell hs hq
    rw [hnl] at c0
    refine tl_leaf x (by omega) c0 (fun V hV => child_none (hs.on hV) hq hks _) fun V hV hb => ?_
    refine (takeI_ (I1 := P) (I2 := []) (hs.on hV) hq hl.symm (by omega)).mono fun e V' ht => ?_
    obtain ⟨v', e1, s1, s2⟩ := ht
    obtain ⟨V2, hst, d1, d2, s3, s4⟩ := box_done hs hV hb s2 s1 x
    refine ⟨e1, V2, hst, d1, d2, rfl, _, F, Kept.one s3 s4 ((hF q).2 (.inl rfl)), { n with iv := v', its := P ++ [] }, [], fun _ => False, upd_self _ _ _, by simp; omega, by simp; omega, fun _ => hks, fun z => (z rfl).elim, by rw [hks]; exact kids_nil, by rw [weave_nil]; simp, id, fun y => ?_⟩
    rw [hF y]
    exact ⟨fun q => q.imp id (fun q => hno y q), fun q => q.imp id False.elim⟩
  | succ h ih =>
    intro w M m q P x F hm hs hN
    obtain ⟨n, ls, Fk, hq, b1, b2, b3, b4, kk, hl, hqn, hF⟩ := hN
    have hks := b4 (by omega)
    obtain ⟨K1, p, hK⟩ := last_of (show 0 < n.ks.length by omega)
    have hK1 : n.its.length = K1.length := by rw [hK] at hks; simp at hks; omega
    rw [hK] at kk
    obtain ⟨L1, lp, L2, F1, Fp, F2, rfl, k1, kp, k2, d1, d2, d3, hFk⟩ := kk.at
    obtain ⟨rfl, hno2⟩ := k2.nil
    have l1 := k1.len
    have q1 : ¬ F1 q := fun g => hqn ((hFk q).2 (.inl g))
    have qp : ¬ Fp q := fun g => hqn ((hFk q).2 (.inr (.inl g)))
    have hw0 := weave_at n.its [] L1 lp [] (by omega) rfl
    rw [List.append_nil] at hw0
    rw [hw0, suf_nil, List.append_nil] at hl
    obtain ⟨P', y, rfl⟩ := last_of (show 0 < lp.length by have := kp.full; omega)
    obtain ⟨rfl, rfl⟩ := append_last hl
    obtain ⟨j, hj⟩ : ∃ j, n.its.length = j + 1 := ⟨n.its.length - 1, by omega⟩
    obtain ⟨ai, ci, c0⟩ := items_cell hs hq
    rw [hj] at c0
    have hjl : ((j : Int) + 1) = (n.its.length : Int) := by rw [hj]; simp
    refine tl_inner (p := p) x (by omega) c0 (fun V hV => ?_) fun V hV hb => ?_
    · have := child_at (hs.on hV) hq (K2 := []) hK
      rw [hjl, hK1]
      exact this
    · refine (ih (by omega) (hs.on hV) kp).mono fun e V1 ht => ?_
      obtain ⟨e1, M1, F', hk, hN'⟩ := ht
      have hsz := hk.ext.size
      have hsV := hV.size
      have lt1 := k1.lt hs
      have ltq := hs.node_lt hq
      refine ⟨e1, fun U hU hbx => ?_⟩
      have hsU := hk.st.on hU
      have keep : ∀ G : Nat → Prop, (∀ x, G x → x < w.heap.size) → (∀ x, G x → ¬ Fp x) → ∀ x, G x → M1 x = M x := fun G g1 g2 x hx => hk.rest x (by have := g1 x hx; omega) (g2 x hx)
      have kk1 := k1.frame (keep F1 lt1 d1)
      have hq' : M1 q = some n := (hk.rest q (by omega) qp).trans hq
      have n1 : ∀ x, F1 x → ¬ F' x := fun x hx g => by
        rcases hk.new x g with r | r
        · exact d1 x hx r
        · have := lt1 x hx; omega
      have nq : ¬ F' q := fun g => by
        rcases hk.new q g with r | r
        · exact qp r
        · omega
      have hfl := fill_ (I1 := n.its) (I2 := []) (K1 := K1) (K2 := []) (L2 := []) (F2 := fun _ => False) hsU hq' (by simp) hK hK1 rfl (by omega) b2 kk1 hN' kids_nil n1 (fun _ _ g => g) (fun _ _ g => g) q1 nq id
      rw [← hjl] at hfl
      refine hfl.mono fun e2 V3 hh => ?_
      obtain ⟨e3, M2, F'', hk2, hN2⟩ := hh
      have hb1 := hk2.ext.stays hbx (hk.st.not_own (Nat.le_refl _))
      have hx : Ext (Own M) (Own M2) V V3 := (hk.ext.trans (Ext.of_below _ hU)).trans hk2.ext
      obtain ⟨V2, hst, g1, g2, s3, s4⟩ := box_done hs hV hb hx hk2.st x
      refine ⟨e3, cell_of hb1.1 rfl, cell_of hb1.1 rfl, V2, hst, g1, g2, rfl, M2, F'', ?_, ?_⟩
      · have hsub : ∀ k, (k = q ∨ F1 k ∨ F' k ∨ False) → F k ∨ w.heap.size ≤ k := fun k g => by
          rcases g with rfl | g | g | g
          · exact .inl ((hF _).2 (.inl rfl))
          · exact .inl ((hF k).2 (.inr ((hFk k).2 (.inl g))))
          · rcases hk.new k g with r | r
            · exact .inl ((hF k).2 (.inr ((hFk k).2 (.inr (.inl r)))))
            · exact .inr (by omega)
          · exact g.elim
        have hkw : Kept M M1 F (fun k => k = q ∨ F1 k ∨ F' k ∨ False) w V1 := (hk.base hV).widen (fun k g => (hF k).2 (.inr ((hFk k).2 (.inr (.inl g))))) hsub
        exact (hkw.trans (hk2.base hU) hsub).to s3 s4
      · rw [suf_nil, List.append_nil] at hN2
        exact hN2.wide (by omega) b2
end Go.Proofs.YtagamkahfiackaaGreatDoor
