/- node.fillChild, as a tree. -/
import Derived.Test.YtagamkahfiackaaGreatDoorVDuo
namespace Go.Proofs.YtagamkahfiackaaGreatDoor
open Go.RowKit Go.Sort

theorem Store.kids {w : World} {M : Nat → Option Nd} {q : Nat} {n : Nd} (h : Store w M) (hq : M q = some n) (hn : 0 < n.ks.length) : ∃ g c, w.cell? ⟨q, 1, none⟩ = some (.slice (some ⟨g, 0, none⟩) n.ks.length c) ∧ ∀ i p, n.ks[i]? = some p → w.cell? ⟨g, i, none⟩ = some (.pointer (some ⟨p, 0, none⟩)) := by
  obtain ⟨g, c, cur, e, hg, hnc, hcm, hcs, hx⟩ := row_open (h.ks q n hq) hn
  refine ⟨g, c, by rw [(h.cells hq).2.1, e], fun i p hi => cell_of hg ?_⟩
  have c1 := cP_get n.ks i p hi
  rw [← hx, List.getElem?_take] at c1
  split at c1
  · simpa [pt] using c1
  · cases c1
theorem few_of {w : World} {M : Nat → Option Nd} {c : Nat} {n : Nd} (h : Store w M) (hc : M c = some n) {b : Bool} (hb : decide (n.its.length < 3) = b) : Calls Tryz.prog 76 #[.pointer (some ⟨c, 0, none⟩)] w fun e w' => e = .returned (.bool b) ∧ w' = w := by
  rw [← hb]; exact hasTooFew_ h hc
theorem spare_of {w : World} {M : Nat → Option Nd} {c : Nat} {n : Nd} (h : Store w M) (hc : M c = some n) {b : Bool} (hb : decide (3 < n.its.length) = b) : Calls Tryz.prog 77 #[.pointer (some ⟨c, 0, none⟩)] w fun e w' => e = .returned (.bool b) ∧ w' = w := by
  rw [← hb]; exact canSpare_ h hc
theorem fillN_told {M : Nat → Option Nd} {h q m mx : Nat} {l : List It} {F : Nat → Prop} {w : World} {f : FuncId} {args : Array Value} (hh : Calls Tryz.prog f args w (FillN M h q m mx l F w)) : Calls Tryz.prog f args w fun e w' => e = .returned (.tuple #[]) ∧ FillN M h q m mx l F w (.returned (.tuple #[])) w' :=
  hh.mono fun _ _ hf => ⟨hf.1, rfl, hf.2⟩
theorem fill_ {w : World} {M : Nat → Option Nd} {h q c : Nat} {n : Nd} {I1 I2 : List It} {K1 K2 : List Nat} {L1 L2 : List (List It)} {lc : List It} {F1 Fc F2 : Nat → Prop} (hs : Store w M) (hq : M q = some n) (hI : n.its = I1 ++ I2) (hK : n.ks = K1 ++ c :: K2) (hIK : I1.length = K1.length) (hIK2 : I2.length = K2.length) (hn1 : 1 ≤ n.its.length) (hn : n.its.length ≤ 7)
    (k1 : Kids (Nod M h 3 7) K1 L1 F1) (kc : Nod M h 2 7 c lc Fc) (k2 : Kids (Nod M h 3 7) K2 L2 F2) (d1 : ∀ x, F1 x → ¬ Fc x) (d2 : ∀ x, F1 x → ¬ F2 x) (d3 : ∀ x, Fc x → ¬ F2 x) (q1 : ¬ F1 q) (qc : ¬ Fc q) (q2 : ¬ F2 q) :
    Calls Tryz.prog 64 #[.pointer (some ⟨q, 0, none⟩), .int .i64 I1.length] w (FillN M h q (n.its.length - 1) n.its.length (pre I1 L1 ++ (lc ++ suf I2 L2)) (fun x => x = q ∨ F1 x ∨ Fc x ∨ F2 x) w) := by
  have l1 := k1.len
  have l2 := k2.len
  have hnl : n.its.length = I1.length + I2.length := by rw [hI]; simp
  have hkl : n.ks.length = n.its.length + 1 := by rw [hK]; simp; omega
  obtain ⟨ai, ci, c0⟩ := items_cell hs hq
  obtain ⟨gk, ck, c1, kk0⟩ := hs.kids hq (by omega)
  cases h with
  | zero => exact kc.elim
  | succ h =>
    obtain ⟨nc, ls, Fk, hc, b1, b2, b3, b4, kk, hlc, hcn, hF⟩ := id kc
    by_cases h3 : 3 ≤ nc.its.length
    · have kc' : Nod M (h + 1) 3 7 c lc Fc := ⟨nc, ls, Fk, hc, h3, b2, b3, b4, kk, hlc, hcn, hF⟩
      have hz : FillN M (h + 1) q (n.its.length - 1) n.its.length (pre I1 L1 ++ (lc ++ suf I2 L2)) (fun x => x = q ∨ F1 x ∨ Fc x ∨ F2 x) w (.returned (.tuple #[])) w := by
        refine ⟨rfl, M, _, ⟨hs, Ext.refl _ _, fun _ _ _ => rfl, fun _ g => .inl g⟩, n, L1 ++ lc :: L2, fun x => F1 x ∨ Fc x ∨ F2 x, hq, by omega, by omega, fun z => by omega, fun _ => hkl, ?_, ?_, ?_, fun x => Iff.rfl⟩
        · rw [hK]; exact kids_at k1 kc' k2 d1 d2 d3
        · rw [hI, weave_at I1 I2 L1 lc L2 (by omega) (by omega)]
        · rintro (g | g | g)
          · exact q1 g
          · exact qc g
          · exact q2 g
      have hfew := few_of (b := false) hs hc (by simp; omega)
      rcases List.eq_nil_or_concat I1 with rfl | ⟨J1, x, rfl⟩
      · have : K1 = [] := List.eq_nil_of_length_eq_zero (by simpa using hIK.symm)
        subst this
        exact fill_ok0 c1 (kk0 0 c (by rw [hK]; rfl)) hkl (by omega) hfew hz
      · simp only [List.concat_eq_append, List.length_append, List.length_singleton] at hIK hnl
        rw [show (((J1.concat x).length : Nat) : Int) = (J1.length : Int) + 1 by simp]
        exact fill_ok1 c1 (kk0 (J1.length + 1) c (by rw [hK, hIK]; simp)) hkl (by omega) (by omega) hfew hz
    · have hc2 : nc.its.length = 2 := by omega
      have hfew := few_of (b := true) hs hc (by simp; omega)
      subst hlc
      -- the right neighbour, if there is one
      have right : ∀ (x2 : It) (I2' : List It) (b : Nat) (K2' : List Nat), I2 = x2 :: I2' → K2 = b :: K2' → ∃ (lb : List It) (lsb L2' : List (List It)) (nb : Nd) (FB Fb F2' : Nat → Prop), L2 = lb :: L2' ∧ lb = weave nb.its lsb ∧ 3 ≤ nb.its.length ∧ M b = some nb ∧ (∀ x, Fb x ↔ x = b ∨ FB x) ∧ (∀ x, F2 x ↔ Fb x ∨ F2' x) ∧ Duo M h q c b n nc nb I1 x2 I2' K1 K2' L1 L2' ls lsb F1 Fk FB F2' (fun x => x = q ∨ F1 x ∨ Fc x ∨ F2 x) := by
        intro x2 I2' b K2' e1 e2
        subst e1; subst e2
        cases L2 with
        | nil => exact k2.elim
        | cons lb L2' =>
          obtain ⟨Fb, F2', kb, k2', dbr, hF2⟩ := k2
          obtain ⟨nb, lsb, FB, hb, e1, e2, e3, e4, kkb, hlb, hbn, hFb⟩ := kb
          refine ⟨lb, lsb, L2', nb, FB, Fb, F2', rfl, hlb, e1, hb, hFb, hF2, hq, hc, hb, hI, hK, hIK, by simpa using hIK2, k1, k2', kk, kkb, b3, b4, e3, e4, fun x hx g => d3 x ((hF x).2 (.inr hx)) ((hF2 x).2 (.inl ((hFb x).2 (.inr g)))), ap_of hF hFb hcn hbn q1 qc (fun g => q2 ((hF2 q).2 (.inl g))) (fun g => q2 ((hF2 q).2 (.inr g))) d1 (fun x hx g => d2 x hx ((hF2 x).2 (.inl g))) (fun x hx g => d2 x hx ((hF2 x).2 (.inr g))) (fun x hx g => d3 x hx ((hF2 x).2 (.inl g))) (fun x hx g => d3 x hx ((hF2 x).2 (.inr g))) dbr, fun x => ?_, hn, b2, e2⟩
          show x = q ∨ F1 x ∨ Fc x ∨ F2 x ↔ _
          rw [hF, hF2, hFb]
          constructor
          · rintro (g | g | (g | g) | ((g | g) | g))
            · exact .inl g
            · exact .inr (.inl g)
            · exact .inr (.inr (.inl g))
            · exact .inr (.inr (.inr (.inr (.inl (.inl g)))))
            · exact .inr (.inr (.inr (.inl g)))
            · exact .inr (.inr (.inr (.inr (.inl (.inr g)))))
            · exact .inr (.inr (.inr (.inr (.inr g))))
          · rintro (g | g | g | g | (g | g) | g)
            · exact .inl g
            · exact .inr (.inl g)
            · exact .inr (.inr (.inl (.inl g)))
            · exact .inr (.inr (.inr (.inl (.inl g))))
            · exact .inr (.inr (.inl (.inr g)))
            · exact .inr (.inr (.inr (.inl (.inr g))))
            · exact .inr (.inr (.inr (.inr g)))
      rcases List.eq_nil_or_concat I1 with rfl | ⟨J1, x, e⟩
      · have : K1 = [] := List.eq_nil_of_length_eq_zero (by simpa using hIK.symm)
        subst this
        cases I2 with
        | nil => rw [hI] at hn1; simp at hn1
        | cons x2 I2' =>
          cases K2 with
          | nil => simp at hIK2
          | cons b K2' =>
            obtain ⟨lb, lsb, L2', nb, FB, Fb, F2', rfl, rfl, e1, hb, _, _, t⟩ := right x2 I2' b K2' rfl rfl
            have hk0 := kk0 0 c (by rw [hK]; rfl)
            have hk2 := kk0 1 b (by rw [hK]; rfl)
            by_cases h4 : 3 < nb.its.length
            · exact fill_C0 c0 c1 hk0 hkl (by omega) hfew hk2 (spare_of hs hb (by simpa using h4)) (by omega) (fillN_told (tmoveA hs t h4 hc2))
            · exact fill_E c0 c1 hk0 hkl (by omega) hfew hk2 (spare_of hs hb (by simpa using h4)) (by omega) (fillN_told (tjoin hs t (by omega) (by omega)))
      · rw [List.concat_eq_append] at e
        subst e
        have hIK' : J1.length + 1 = K1.length := by simpa using hIK
        obtain ⟨A1, a, rfl⟩ := last_of (show 0 < K1.length by omega)
        have hIA : J1.length = A1.length := by simpa using hIK'
        obtain ⟨L1', la1, F1', Fa, rfl, k1', ka1, dXa, hF1⟩ := k1.split
        have lla := ka1.len
        obtain ⟨la, rfl⟩ : ∃ la, la1 = [la] := by
          match la1, lla with
          | [la], _ => exact ⟨la, rfl⟩
        obtain ⟨Fa', Fe, ka, ke, _, hFa'⟩ := ka1
        obtain ⟨na, lsa, FA, ha, a1, a2, a3, a4, kka, hla, han, hFa⟩ := ka
        have hFa2 : ∀ x, Fa x ↔ x = a ∨ FA x := fun x => by
          rw [hFa', hFa]
          exact ⟨fun g => g.elim id (fun g => (ke x g).elim), .inl⟩
        have s1 : ∀ x, F1' x → F1 x := fun x g => (hF1 x).2 (.inl g)
        have sa : ∀ x, Fa x → F1 x := fun x g => (hF1 x).2 (.inr g)
        have lx := k1'.len
        have hI' : n.its = J1 ++ x :: I2 := by rw [hI]; simp
        have hK' : n.ks = A1 ++ a :: c :: K2 := by rw [hK]; simp
        have t : Duo M h q a c n na nc J1 x I2 A1 K2 L1' L2 lsa ls F1' FA Fk F2 (fun x => x = q ∨ F1 x ∨ Fc x ∨ F2 x) := by
          refine ⟨hq, ha, hc, hI', hK', hIA, hIK2, k1', k2, kka, kk, a3, a4, b3, b4, fun x hx g => d1 x (sa x ((hFa2 x).2 (.inr hx))) ((hF x).2 (.inr g)), ap_of hFa2 hF han hcn (fun g => q1 (s1 q g)) (fun g => q1 (sa q g)) qc q2 dXa (fun x hx => d1 x (s1 x hx)) (fun x hx => d2 x (s1 x hx)) (fun x hx => d1 x (sa x hx)) (fun x hx => d2 x (sa x hx)) d3, fun x => ?_, hn, a2, b2⟩
          show x = q ∨ F1 x ∨ Fc x ∨ F2 x ↔ _
          rw [hF, hF1, hFa2]
          constructor
          · rintro (g | (g | g | g) | (g | g) | g)
            · exact .inl g
            · exact .inr (.inl g)
            · exact .inr (.inr (.inl g))
            · exact .inr (.inr (.inr (.inr (.inl (.inl g)))))
            · exact .inr (.inr (.inr (.inl g)))
            · exact .inr (.inr (.inr (.inr (.inl (.inr g)))))
            · exact .inr (.inr (.inr (.inr (.inr g))))
          · rintro (g | g | g | g | (g | g) | g)
            · exact .inl g
            · exact .inr (.inl (.inl g))
            · exact .inr (.inl (.inr (.inl g)))
            · exact .inr (.inr (.inl (.inl g)))
            · exact .inr (.inl (.inr (.inr g)))
            · exact .inr (.inr (.inl (.inr g)))
            · exact .inr (.inr (.inr g))
        have hle : pre (J1 ++ [x]) (L1' ++ [la]) ++ (weave nc.its ls ++ suf I2 L2) = pre J1 L1' ++ (weave na.its lsa ++ x :: (weave nc.its ls ++ suf I2 L2)) := by
          rw [pre_append J1 [x] L1' [la] (by omega), pre_one, hla]; simp
        have hk0 := kk0 (J1.length + 1) c (by rw [hK', hIA]; simp)
        have hk1 := kk0 J1.length a (by rw [hK', hIA]; simp)
        have hlen : ((J1 ++ [x]).length : Int) = (J1.length : Int) + 1 := by simp
        simp only [List.length_append, List.length_singleton] at hnl
        by_cases h4 : 3 < na.its.length
        · rw [hle, hlen]
          exact fill_B c1 hk0 hkl (by omega) (by omega) hfew hk1 (spare_of hs ha (by simpa using h4)) (fillN_told (tmoveB hs t h4 hc2))
        · have hsa := spare_of (b := false) hs ha (by simpa using h4)
          cases I2 with
          | nil =>
            rw [hle, hlen]
            exact fill_D0 c0 c1 hk0 hkl (by omega) hfew hk1 hsa (by simp at hnl; omega) (fillN_told (tjoin hs t (by omega) (by omega)))
          | cons x2 I2' =>
            cases K2 with
            | nil => simp at hIK2
            | cons b K2' =>
              obtain ⟨lb, lsb, L2', nb, FB, Fb, F2', rfl, rfl, e1, hb, _, _, t2⟩ := right x2 I2' b K2' rfl rfl
              have hk2 := kk0 (J1.length + 1 + 1) b (by rw [hK', hIA, show A1 ++ a :: c :: b :: K2' = (A1 ++ [a, c]) ++ b :: K2' by simp, List.getElem?_append_right (by simp)]; simp)
              by_cases h5 : 3 < nb.its.length
              · have hta := fillN_told (tmoveA hs t2 h5 hc2)
                rw [hlen] at hta ⊢
                exact fill_C1 c0 c1 hk0 hkl (by omega) hfew hk1 hsa hk2 (spare_of hs hb (by simpa using h5)) (by simp at hnl; omega) hta
              · rw [hle, hlen]
                exact fill_D1 c0 c1 hk0 hkl (by omega) hfew hk1 hsa hk2 (spare_of hs hb (by simpa using h5)) (by simp at hnl; omega) (fillN_told (tjoin hs t (by omega) (by omega)))
end Go.Proofs.YtagamkahfiackaaGreatDoor
