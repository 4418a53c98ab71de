/- node.put, as a tree. -/
import Derived.Test.YtagamkahfiackaaGreatDoorVPut
namespace Go.Proofs.YtagamkahfiackaaGreatDoor
open Go.RowKit Go.Sort

theorem Kept.trans {M M' M'' : Nat → Option Nd} {F F' G G' : Nat → Prop} {w w' w'' : World} (h1 : Kept M M' F F' w w') (h2 : Kept M' M'' G G' w' w'') (hG : ∀ k, G k → F k ∨ w.heap.size ≤ k) : Kept M M'' F G' w w'' := by
  have hs := h1.ext.size
  refine ⟨h2.st, h1.ext.trans h2.ext, fun k hk hn => (h2.rest k (Nat.lt_of_lt_of_le hk hs) fun g => ?_).trans (h1.rest k hk hn), fun k hk => ?_⟩
  · rcases hG k g with q | q
    · exact hn q
    · omega
  · rcases h2.new k hk with q | q
    · exact hG k q
    · exact .inr (Nat.le_trans hs q)
theorem Kept.widen {M M' : Nat → Option Nd} {F F' G G' : Nat → Prop} {w w' : World} (h : Kept M M' F F' w w') (hF : ∀ k, F k → G k) (hG : ∀ k, G' k → G k ∨ w.heap.size ≤ k) : Kept M M' G G' w w' :=
  ⟨h.st, h.ext, fun k hk hn => h.rest k hk fun q => hn (hF k q), hG⟩
theorem Srt.about_mid {P S : List It} {k : ByteArray} {u : Vl} (h : Srt (P ++ (k, u) :: S)) : (∀ x ∈ P, ltb x.1 k = true) ∧ (∀ x ∈ S, ltb k x.1 = true) := by
  have hp := List.pairwise_append.1 h
  exact ⟨fun x hx => hp.2.2 x hx (k, u) (by simp), (List.pairwise_cons.1 hp.2.1).1⟩
theorem split_len {ls : List (List It)} {a b : Nat} (h : ls.length = a + b + 1) : ∃ L1 l L2, ls = L1 ++ l :: L2 ∧ L1.length = a ∧ L2.length = b := by
  refine ⟨ls.take a, ls[a], ls.drop (a + 1), ?_, by rw [List.length_take]; omega, by rw [List.length_drop]; omega⟩
  rw [← List.drop_eq_getElem_cons, List.take_append_drop]
theorem weave_yes {I1 I3 : List It} {ls : List (List It)} (k : ByteArray) (h : ls = [] ∨ ls.length = I1.length + I3.length + 1 + 1) : ∃ P S, ∀ v, weave (I1 ++ (k, v) :: I3) ls = P ++ (k, v) :: S := by
  rcases h with rfl | h
  · exact ⟨I1, I3, fun v => weave_nil _⟩
  · obtain ⟨L1, l, L2, rfl, h1, h2⟩ := split_len (a := I1.length) (b := I3.length + 1) (by omega)
    cases L2 with
    | nil => simp at h2
    | cons l' L2 =>
      refine ⟨pre I1 L1 ++ l, l' ++ suf I3 L2, fun v => ?_⟩
      rw [weave_at I1 ((k, v) :: I3) L1 l (l' :: L2) (by omega) (by simp at h2 ⊢; omega), suf_cons]
      simp
theorem put_ : ∀ (h : Nat) {w : World} {M : Nat → Option Nd} {m q : Nat} {l : List It} {F : Nat → Prop} (x : It), Store w M → Nod M (h + 1) m 7 q l F → Srt l →
    Calls Tryz.prog 50 #[.pointer (some ⟨q, 0, none⟩), .agg #[.string x.1, .slice x.2.a x.2.n x.2.c]] w (PutTo w M (h + 1) m q l F x) := by
  intro h
  induction h with
  | zero =>
    intro w M m q l F x hs hN hS
    obtain ⟨n, ls, Fk, hq, b1, b2, b3, b4, kk, rfl, hqn, hF⟩ := hN
    have hks := b3 rfl
    rw [hks] at kk
    obtain ⟨rfl, hno⟩ := kk.nil
    have hSi := hS.items
    rw [weave_nil] at hS ⊢
    have fin : ∀ w' n', n'.ks = n.ks → m ≤ n'.its.length → n'.its.length ≤ 8 → Store w' (upd M q n') → Ext (Own M) (Own (upd M q n')) w w' → n'.its = ins x.1 x.2 n.its → ∀ (u : Vl) (b : Bool), u = (get x.1 n.its).getD vz → b = (get x.1 n.its).isSome → PutTo w M (0 + 1) m q n.its F x (.returned (.tuple #[.slice u.a u.n u.c, .bool b])) w' := by
      intro w' n' e1 e2 e3 s1 s2 e4 u b hu hb
      refine ⟨by rw [hu, hb], _, F, Kept.one s1 s2 ((hF q).2 (.inl rfl)), n', [], fun _ => False, upd_self _ _ _, e2, e3, fun _ => e1.trans hks, fun z => (z rfl).elim, by rw [e1, hks]; exact kids_nil, by rw [weave_nil, e4], id, fun y => ?_⟩
      rw [hF y]
      exact ⟨fun q => q.imp id (fun q => hno y q), fun q => q.imp id False.elim⟩
    rcases about hSi x.1 with ⟨I1, u, I3, hy⟩ | ⟨I1, I2, hy⟩
    · have hl : n.its.length = I1.length + I3.length + 1 := by rw [hy.eq]; simp; omega
      refine put_yes x hs hq (by omega) hSi hy fun w' n' e1 e2 s1 s2 => fin w' n' e2 ?_ ?_ s1 s2 ?_ u true ?_ ?_
      · rw [e1]; simp; omega
      · rw [e1]; simp; omega
      · rw [e1, hy.eq, ins_at hy.lo hy.hi]
      · rw [hy.eq, get_at hy.lo]; rfl
      · rw [hy.eq, get_at hy.lo]; rfl
    · have hl : n.its.length = I1.length + I2.length := by rw [hy.eq]; simp
      refine put_leaf x hs hq (by omega) hSi hy hks fun w' n' e1 e2 s1 s2 => fin w' n' e2 ?_ ?_ s1 s2 ?_ vz false ?_ ?_
      · rw [e1]; simp; omega
      · rw [e1]; simp; omega
      · rw [e1, hy.eq, ins_new hy.lo hy.hi]
      · rw [hy.eq, get_new hy.lo hy.hi]; rfl
      · rw [hy.eq, get_new hy.lo hy.hi]; rfl
  | succ h ih =>
    intro w M m q l F x hs hN hS
    obtain ⟨n, ls, Fk, hq, b1, b2, b3, b4, kk, rfl, hqn, hF⟩ := hN
    have hks := b4 (by omega)
    have hll := kk.len
    have hSi := hS.items
    rcases about hSi x.1 with ⟨I1, u, I3, hy⟩ | ⟨I1, I2, hy⟩
    · have hl : n.its.length = I1.length + I3.length + 1 := by rw [hy.eq]; simp; omega
      obtain ⟨P, S, hw⟩ := weave_yes (I1 := I1) (I3 := I3) (ls := ls) x.1 (.inr (by omega))
      have hw0 : weave n.its ls = P ++ (x.1, u) :: S := by rw [hy.eq]; exact hw u
      rw [hw0] at hS ⊢
      obtain ⟨hP, hSS⟩ := hS.about_mid
      refine put_yes x hs hq (by omega) hSi hy fun w' n' e1 e2 s1 s2 => ?_
      refine ⟨by rw [get_at hP]; rfl, _, F, Kept.one s1 s2 ((hF q).2 (.inl rfl)), n', ls, Fk, upd_self _ _ _, by rw [e1]; simp; omega, by rw [e1]; simp; omega, fun z => by omega, fun _ => by rw [e1, e2]; simp; omega, ?_, by rw [e1, ins_at hP hSS, hw], hqn, hF⟩
      rw [e2]
      exact kk.frame fun k hk => upd_other _ _ fun e => hqn (e ▸ hk)
    · have hl : n.its.length = I1.length + I2.length := by rw [hy.eq]; simp
      have hkl : n.ks.length = I1.length + I2.length + 1 := by omega
      obtain ⟨K1, p, K2, hK, hK1, hK2⟩ : ∃ K1 p K2, n.ks = K1 ++ p :: K2 ∧ K1.length = I1.length ∧ K2.length = I2.length := by
        refine ⟨n.ks.take I1.length, n.ks[I1.length], n.ks.drop (I1.length + 1), ?_, by rw [List.length_take]; omega, by rw [List.length_drop]; omega⟩
        rw [← List.drop_eq_getElem_cons, List.take_append_drop]
      rw [hK] at kk
      obtain ⟨L1, lp, L2, F1, Fp, F2, rfl, k1, kp, k2, d1, d2, d3, hFk⟩ := kk.at
      have l1 := k1.len
      have l2 := k2.len
      have q1 : ¬ F1 q := fun g => hqn ((hFk q).2 (.inl g))
      have qp : ¬ Fp q := fun g => hqn ((hFk q).2 (.inr (.inl g)))
      have q2 : ¬ F2 q := fun g => hqn ((hFk q).2 (.inr (.inr g)))
      have hw0 : weave n.its (L1 ++ lp :: L2) = pre I1 L1 ++ (lp ++ suf I2 L2) := by rw [hy.eq]; exact weave_at I1 I2 L1 lp L2 (by omega) (by omega)
      rw [hw0] at hS ⊢
      have hS3 := List.pairwise_append.1 hS
      have hS4 := List.pairwise_append.1 hS3.2.1
      have hPlt := pre_lt I1 L1 hS3.1 hy.lo
      have hSgt := suf_gt I2 L2 hS4.2.1 hy.hi
      have lt1 := k1.lt hs
      have lt2 := k2.lt hs
      have ltq := hs.node_lt hq
      refine put_inner x hs hq (by omega) hSi hy hK (by omega) (hv := (get x.1 (pre I1 L1 ++ (lp ++ suf I2 L2))).getD vz) (hb := (get x.1 (pre I1 L1 ++ (lp ++ suf I2 L2))).isSome) fun w2 hs2 hb2 => ?_
      refine (ih x hs2 kp hS4.1).mono fun e w' he => ?_
      obtain ⟨he1, M', F', hk, hN'⟩ := he
      have hsz := hk.ext.size
      have hsz2 := hb2.size
      obtain ⟨np, lsp, Fkp, hp, c1, c2, c3, c4, c5, c6, c7, c8⟩ := id hN'
      have keep : ∀ G : Nat → Prop, (∀ x, G x → x < w.heap.size) → (∀ x, G x → ¬ Fp x) → ∀ x, G x → M' x = M x := fun G g1 g2 x hx => hk.rest x (by have := g1 x hx; omega) (g2 x hx)
      have kk1 := k1.frame (keep F1 lt1 d1)
      have kk2 := k2.frame (keep F2 lt2 (fun x hx g => d3 x g hx))
      have hq' : M' q = some n := (hk.rest q (by omega) qp).trans hq
      have n1 : ∀ x, F1 x → ¬ F' x := fun x hx g => by
        rcases hk.new x g with r | r
        · exact d1 x hx r
        · have := lt1 x hx; omega
      have n3 : ∀ x, F' x → ¬ F2 x := fun x g hx => by
        rcases hk.new x g with r | r
        · exact d3 x r hx
        · have := lt2 x hx; omega
      have nq : ¬ F' q := fun g => by
        rcases hk.new q g with r | r
        · exact qp r
        · omega
      have hkw : Kept M M' F (fun x => x = q ∨ F1 x ∨ F' x ∨ F2 x) w w' := (hk.base hb2).widen (fun k g => (hF k).2 (.inr ((hFk k).2 (.inr (.inl g))))) (fun k g => by
        rcases g with rfl | g | g | g
        · exact .inl ((hF _).2 (.inl rfl))
        · exact .inl ((hF k).2 (.inr ((hFk k).2 (.inl g))))
        · rcases hk.new k g with r | r
          · exact .inl ((hF k).2 (.inr ((hFk k).2 (.inr (.inl r)))))
          · exact .inr (by omega)
        · exact .inl ((hF k).2 (.inr ((hFk k).2 (.inr (.inr g))))))
      refine ⟨by rw [get_mid hPlt hSgt]; exact he1, M', np, hk.st, hp, fun h7 => ?_, fun h8 => ?_⟩
      · refine ⟨rfl, M', _, hkw, n, L1 ++ ins x.1 x.2 lp :: L2, fun x => F1 x ∨ F' x ∨ F2 x, hq', b1, by omega, fun z => by omega, fun _ => hks, ?_, ?_, ?_, fun x => Iff.rfl⟩
        · rw [hK]
          exact kids_at kk1 ⟨np, lsp, Fkp, hp, c1, h7, c3, c4, c5, c6, c7, c8⟩ kk2 n1 d2 n3
        · rw [ins_mid hPlt hSgt, hy.eq, weave_at I1 I2 L1 _ L2 (by omega) (by omega)]
        · rintro (g | g | g)
          · exact q1 g
          · exact nq g
          · exact q2 g
      · have hsp := split_ hk.st hq' hy.eq hK (by omega) (by omega) (by omega) kk1 ⟨np, lsp, Fkp, hp, h8, c2, c3, c4, c5, c6, c7, c8⟩ kk2 n1 d2 n3 q1 nq q2
        refine hsp.mono fun e2 w'' hh => ?_
        obtain ⟨e3, M'', F'', hk2, hN2⟩ := hh
        refine ⟨e3, rfl, M'', F'', hkw.trans hk2 hkw.new, ?_⟩
        rw [ins_mid hPlt hSgt]
        exact hN2.wide (by omega) (by omega)
end Go.Proofs.YtagamkahfiackaaGreatDoor
