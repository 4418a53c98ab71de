/- Two neighbours below a node: items moved from one to the other, the two joined; as a tree. -/
import Derived.Test.YtagamkahfiackaaGreatDoorVFill0
namespace Go.Proofs.YtagamkahfiackaaGreatDoor
open Go.RowKit Go.Sort

def FillN (M : Nat → Option Nd) (h q m mx : Nat) (l : List It) (F : Nat → Prop) (w : World) (e : Ending) (w' : World) : Prop := e = .returned (.tuple #[]) ∧ ∃ M' F', Kept M M' F F' w w' ∧ Nod M' (h + 1) m mx q l F'
/-- A node, two children and what lies about them are apart. -/
structure Ap (q a b : Nat) (F1 G F2 : Nat → Prop) : Prop where
  qa : q ≠ a
  qb : q ≠ b
  ab : a ≠ b
  q1 : ¬ F1 q
  qg : ¬ G q
  q2 : ¬ F2 q
  a1 : ¬ F1 a
  ag : ¬ G a
  a2 : ¬ F2 a
  b1 : ¬ F1 b
  bg : ¬ G b
  b2 : ¬ F2 b
  d1 : ∀ x, F1 x → ¬ G x
  d2 : ∀ x, F1 x → ¬ F2 x
  d3 : ∀ x, G x → ¬ F2 x
theorem ap_of {q a b : Nat} {F1 Fa Fb F2 FA FB : Nat → Prop} (hFa : ∀ x, Fa x ↔ x = a ∨ FA x) (hFb : ∀ x, Fb x ↔ x = b ∨ FB x) (na : ¬ FA a) (nb : ¬ FB b) (q1 : ¬ F1 q) (qa : ¬ Fa q) (qb : ¬ Fb q) (q2 : ¬ F2 q) (d1 : ∀ x, F1 x → ¬ Fa x) (d2 : ∀ x, F1 x → ¬ Fb x) (d3 : ∀ x, F1 x → ¬ F2 x) (d4 : ∀ x, Fa x → ¬ Fb x) (d5 : ∀ x, Fa x → ¬ F2 x) (d6 : ∀ x, Fb x → ¬ F2 x) : Ap q a b F1 (fun x => FA x ∨ FB x) F2 := by
  have sa : Fa a := (hFa a).2 (.inl rfl)
  have sb : Fb b := (hFb b).2 (.inl rfl)
  have ga : ∀ x, FA x → Fa x := fun x hx => (hFa x).2 (.inr hx)
  have gb : ∀ x, FB x → Fb x := fun x hx => (hFb x).2 (.inr hx)
  exact ⟨fun e => qa ((hFa q).2 (.inl e)), fun e => qb ((hFb q).2 (.inl e)), fun e => d4 a sa ((hFb a).2 (.inl e)), q1, fun g => g.elim (fun g => qa (ga _ g)) (fun g => qb (gb _ g)), q2, fun g => d1 a g sa, fun g => g.elim na (fun g => d4 a sa (gb _ g)), d5 a sa, fun g => d2 b g sb, fun g => g.elim (fun g => d4 b (ga _ g) sb) nb, d6 b sb, fun x hx g => g.elim (fun g => d1 x hx (ga x g)) (fun g => d2 x hx (gb x g)), d3, fun x g hx => g.elim (fun g => d5 x (ga x g) hx) (fun g => d6 x (gb x g) hx)⟩
theorem fin_two {w w' : World} {M : Nat → Option Nd} {h q a b len : Nat} {I1 I2 ai bi : List It} {y : It} {K1 K2 ac bc : List Nat} {L1 L2 la lb : List (List It)} {F1 FA FB G F2 F : Nat → Prop} {l : List It} {e : Ending}
    (hm : MovedTo w M q a b (I1 ++ y :: I2) (K1 ++ a :: b :: K2) ai ac bi bc e w') (hIK : I1.length = K1.length) (hIK2 : I2.length = K2.length) (hlen : len = I1.length + I2.length + 1)
    (k1 : Kids (Nod M (h + 1) 3 7) K1 L1 F1) (k2 : Kids (Nod M (h + 1) 3 7) K2 L2 F2) (kA : Kids (Nod M h 3 7) ac la FA) (kB : Kids (Nod M h 3 7) bc lb FB)
    (sA : 3 ≤ ai.length ∧ ai.length ≤ 7) (sB : 3 ≤ bi.length ∧ bi.length ≤ 7) (a0 : h = 0 → ac = []) (a1 : h ≠ 0 → ac.length = ai.length + 1) (b0 : h = 0 → bc = []) (b1 : h ≠ 0 → bc.length = bi.length + 1)
    (dAB : ∀ x, FA x → ¬ FB x) (hG : ∀ x, G x ↔ FA x ∨ FB x) (ap : Ap q a b F1 G F2) (hF : ∀ x, F x ↔ x = q ∨ F1 x ∨ x = a ∨ x = b ∨ G x ∨ F2 x)
    (hl : l = pre I1 L1 ++ (weave ai la ++ y :: (weave bi lb ++ suf I2 L2))) : FillN M (h + 1) q (len - 1) len l F w e w' := by
  obtain ⟨he, M', hS⟩ := hm
  obtain ⟨nq, hnq, eq1, eq2⟩ := hS.atq
  obtain ⟨na, hna, ea1, ea2⟩ := hS.ata
  obtain ⟨nb, hnb, eb1, eb2⟩ := hS.atb
  have l1 := k1.len
  have l2 := k2.len
  have keep : ∀ G : Nat → Prop, ¬ G q → ¬ G a → ¬ G b → ∀ x, G x → M' x = M x := fun G g1 g2 g3 x hx => hS.rest x (fun e => g1 (e ▸ hx)) (fun e => g2 (e ▸ hx)) (fun e => g3 (e ▸ hx))
  have gA : ∀ x, FA x → G x := fun x hx => (hG x).2 (.inl hx)
  have gB : ∀ x, FB x → G x := fun x hx => (hG x).2 (.inr hx)
  have nodA : Nod M' (h + 1) 3 7 a (weave ai la) (fun x => x = a ∨ FA x) := ⟨na, la, FA, hna, by rw [ea1]; exact sA.1, by rw [ea1]; exact sA.2, fun z => by rw [ea2]; exact a0 z, fun z => by rw [ea2, ea1]; exact a1 z, by rw [ea2]; exact kA.frame (keep FA (fun g => ap.qg (gA _ g)) (fun g => ap.ag (gA _ g)) (fun g => ap.bg (gA _ g))), by rw [ea1], fun g => ap.ag (gA _ g), fun _ => Iff.rfl⟩
  have nodB : Nod M' (h + 1) 3 7 b (weave bi lb) (fun x => x = b ∨ FB x) := ⟨nb, lb, FB, hnb, by rw [eb1]; exact sB.1, by rw [eb1]; exact sB.2, fun z => by rw [eb2]; exact b0 z, fun z => by rw [eb2, eb1]; exact b1 z, by rw [eb2]; exact kB.frame (keep FB (fun g => ap.qg (gB _ g)) (fun g => ap.ag (gB _ g)) (fun g => ap.bg (gB _ g))), by rw [eb1], fun g => ap.bg (gB _ g), fun _ => Iff.rfl⟩
  have kk1 := k1.frame (keep F1 ap.q1 ap.a1 ap.b1)
  have kk2 := k2.frame (keep F2 ap.q2 ap.a2 ap.b2)
  have kids := kids_two kk1 nodA nodB kk2 (fun x hx g => g.elim (fun e => ap.a1 (e ▸ hx)) (fun g => ap.d1 x hx (gA x g))) (fun x hx g => g.elim (fun e => ap.b1 (e ▸ hx)) (fun g => ap.d1 x hx (gB x g))) ap.d2 (fun x hx g => hx.elim (fun e => ap.a2 (e ▸ g)) (fun k => ap.d3 x (gA x k) g)) (fun x hx g => hx.elim (fun e => ap.b2 (e ▸ g)) (fun k => ap.d3 x (gB x k) g)) (fun x hx g => hx.elim (fun e => g.elim (fun e' => ap.ab (e.symm.trans e')) (fun g => ap.ag (e ▸ gB x g))) (fun k => g.elim (fun e' => ap.bg (e' ▸ gA x k)) (dAB x k)))
  refine ⟨he, M', fun x => x = q ∨ (F1 x ∨ (x = a ∨ FA x) ∨ (x = b ∨ FB x) ∨ F2 x), ⟨hS.st, hS.ext, fun k _ hno => hS.rest k (fun e => hno ((hF k).2 (.inl e))) (fun e => hno ((hF k).2 (.inr (.inr (.inl e))))) (fun e => hno ((hF k).2 (.inr (.inr (.inr (.inl e)))))), fun k hk => .inl ((hF k).2 ?_)⟩, nq, L1 ++ weave ai la :: weave bi lb :: L2, _, hnq, ?_, ?_, fun z => by omega, fun _ => ?_, ?_, ?_, ?_, fun x => Iff.rfl⟩
  · rcases hk with g | g | (g | g) | (g | g) | g
    · exact .inl g
    · exact .inr (.inl g)
    · exact .inr (.inr (.inl g))
    · exact .inr (.inr (.inr (.inr (.inl (gA k g)))))
    · exact .inr (.inr (.inr (.inl g)))
    · exact .inr (.inr (.inr (.inr (.inl (gB k g)))))
    · exact .inr (.inr (.inr (.inr (.inr g))))
  · rw [eq1]; simp; omega
  · rw [eq1]; simp; omega
  · rw [eq1, eq2]; simp; omega
  · rw [eq2]; exact kids
  · rw [eq1, hl, weave_at I1 (y :: I2) L1 (weave ai la) (weave bi lb :: L2) (by omega) (by simp; omega), suf_cons]
  · rintro (g | (g | g) | (g | g) | g)
    · exact ap.q1 g
    · exact ap.qa g
    · exact ap.qg (gA _ g)
    · exact ap.qb g
    · exact ap.qg (gB _ g)
    · exact ap.q2 g
theorem fin_one {w w' : World} {M : Nat → Option Nd} {h q a b len : Nat} {I1 I2 ai bi : List It} {K1 K2 ac bc : List Nat} {L1 L2 la : List (List It)} {F1 G F2 F : Nat → Prop} {l : List It} {e : Ending}
    (hm : MovedTo w M q a b (I1 ++ I2) (K1 ++ a :: K2) ai ac bi bc e w') (hIK : I1.length = K1.length) (hIK2 : I2.length = K2.length) (hlen : len = I1.length + I2.length + 1)
    (k1 : Kids (Nod M (h + 1) 3 7) K1 L1 F1) (k2 : Kids (Nod M (h + 1) 3 7) K2 L2 F2) (kA : Kids (Nod M h 3 7) ac la G)
    (sA : 3 ≤ ai.length ∧ ai.length ≤ 7) (a0 : h = 0 → ac = []) (a1 : h ≠ 0 → ac.length = ai.length + 1)
    (ap : Ap q a b F1 G F2) (hF : ∀ x, F x ↔ x = q ∨ F1 x ∨ x = a ∨ x = b ∨ G x ∨ F2 x)
    (hl : l = pre I1 L1 ++ (weave ai la ++ suf I2 L2)) : FillN M (h + 1) q (len - 1) len l F w e w' := by
  obtain ⟨he, M', hS⟩ := hm
  obtain ⟨nq, hnq, eq1, eq2⟩ := hS.atq
  obtain ⟨na, hna, ea1, ea2⟩ := hS.ata
  have l1 := k1.len
  have l2 := k2.len
  have keep : ∀ G : Nat → Prop, ¬ G q → ¬ G a → ¬ G b → ∀ x, G x → M' x = M x := fun G g1 g2 g3 x hx => hS.rest x (fun e => g1 (e ▸ hx)) (fun e => g2 (e ▸ hx)) (fun e => g3 (e ▸ hx))
  have nodA : Nod M' (h + 1) 3 7 a (weave ai la) (fun x => x = a ∨ G x) := ⟨na, la, G, hna, by rw [ea1]; exact sA.1, by rw [ea1]; exact sA.2, fun z => by rw [ea2]; exact a0 z, fun z => by rw [ea2, ea1]; exact a1 z, by rw [ea2]; exact kA.frame (keep G ap.qg ap.ag ap.bg), by rw [ea1], ap.ag, fun _ => Iff.rfl⟩
  have kk1 := k1.frame (keep F1 ap.q1 ap.a1 ap.b1)
  have kk2 := k2.frame (keep F2 ap.q2 ap.a2 ap.b2)
  have kids := kids_at kk1 nodA kk2 (fun x hx g => g.elim (fun e => ap.a1 (e ▸ hx)) (ap.d1 x hx)) ap.d2 (fun x hx g => hx.elim (fun e => ap.a2 (e ▸ g)) (fun k => ap.d3 x k g))
  refine ⟨he, M', fun x => x = q ∨ (F1 x ∨ (x = a ∨ G x) ∨ F2 x), ⟨hS.st, hS.ext, fun k _ hno => hS.rest k (fun e => hno ((hF k).2 (.inl e))) (fun e => hno ((hF k).2 (.inr (.inr (.inl e))))) (fun e => hno ((hF k).2 (.inr (.inr (.inr (.inl e)))))), fun k hk => .inl ((hF k).2 ?_)⟩, nq, L1 ++ weave ai la :: L2, _, hnq, ?_, ?_, fun z => by omega, fun _ => ?_, ?_, ?_, ?_, fun x => Iff.rfl⟩
  · rcases hk with g | g | (g | g) | g
    · exact .inl g
    · exact .inr (.inl g)
    · exact .inr (.inr (.inl g))
    · exact .inr (.inr (.inr (.inr (.inl g))))
    · exact .inr (.inr (.inr (.inr (.inr g))))
  · rw [eq1]; simp; omega
  · rw [eq1]; simp; omega
  · rw [eq1, eq2]; simp; omega
  · rw [eq2]; exact kids
  · rw [eq1, hl, weave_at I1 I2 L1 (weave ai la) L2 (by omega) (by omega)]
  · rintro (g | (g | g) | g)
    · exact ap.q1 g
    · exact ap.qa g
    · exact ap.qg g
    · exact ap.q2 g
/-- Two neighbours below a node. -/
structure Duo (M : Nat → Option Nd) (h q a b : Nat) (n na nb : Nd) (I1 : List It) (x : It) (I2 : List It) (K1 K2 : List Nat) (L1 L2 la lb : List (List It)) (F1 FA FB F2 F : Nat → Prop) : Prop where
  hq : M q = some n
  ha : M a = some na
  hb : M b = some nb
  hI : n.its = I1 ++ x :: I2
  hK : n.ks = K1 ++ a :: b :: K2
  hIK : I1.length = K1.length
  hIK2 : I2.length = K2.length
  k1 : Kids (Nod M (h + 1) 3 7) K1 L1 F1
  k2 : Kids (Nod M (h + 1) 3 7) K2 L2 F2
  ka : Kids (Nod M h 3 7) na.ks la FA
  kb : Kids (Nod M h 3 7) nb.ks lb FB
  a0 : h = 0 → na.ks = []
  a1 : h ≠ 0 → na.ks.length = na.its.length + 1
  b0 : h = 0 → nb.ks = []
  b1 : h ≠ 0 → nb.ks.length = nb.its.length + 1
  dAB : ∀ x, FA x → ¬ FB x
  ap : Ap q a b F1 (fun x => FA x ∨ FB x) F2
  hF : ∀ x, F x ↔ x = q ∨ F1 x ∨ x = a ∨ x = b ∨ (FA x ∨ FB x) ∨ F2 x
  hn : n.its.length ≤ 7
  hna : na.its.length ≤ 7
  hnb : nb.its.length ≤ 7
theorem Duo.len {M : Nat → Option Nd} {h q a b : Nat} {n na nb : Nd} {I1 I2 : List It} {x : It} {K1 K2 : List Nat} {L1 L2 la lb : List (List It)} {F1 FA FB F2 F : Nat → Prop} (t : Duo M h q a b n na nb I1 x I2 K1 K2 L1 L2 la lb F1 FA FB F2 F) : n.its.length = I1.length + I2.length + 1 ∧ n.ks.length = K1.length + K2.length + 2 ∧ na.ks.length ≤ 8 ∧ nb.ks.length ≤ 8 := by
  refine ⟨by rw [t.hI]; simp; omega, by rw [t.hK]; simp; omega, ?_, ?_⟩
  · by_cases hz : h = 0
    · rw [t.a0 hz]; simp
    · have := t.a1 hz; have := t.hna; omega
  · by_cases hz : h = 0
    · rw [t.b0 hz]; simp
    · have := t.b1 hz; have := t.hnb; omega
theorem last_of {α : Type} {l : List α} (h : 0 < l.length) : ∃ J y, l = J ++ [y] := by
  rcases List.eq_nil_or_concat l with rfl | ⟨J, y, e⟩
  · simp at h
  · exact ⟨J, y, by rw [e]; simp⟩
theorem tmoveB {w : World} {M : Nat → Option Nd} {h q a b : Nat} {n na nb : Nd} {I1 I2 : List It} {x : It} {K1 K2 : List Nat} {L1 L2 la lb : List (List It)} {F1 FA FB F2 F : Nat → Prop} (hs : Store w M) (t : Duo M h q a b n na nb I1 x I2 K1 K2 L1 L2 la lb F1 FA FB F2 F) (h4 : 3 < na.its.length) (h2 : nb.its.length = 2) :
    Calls Tryz.prog 78 #[.pointer (some ⟨q, 0, none⟩), .int .i64 I1.length] w (FillN M (h + 1) q (n.its.length - 1) n.its.length (pre I1 L1 ++ (weave na.its la ++ x :: (weave nb.its lb ++ suf I2 L2))) F w) := by
  obtain ⟨ll1, ll2, ll3, ll4⟩ := t.len
  have hn := t.hn
  have hna := t.hna
  have hik := t.hIK
  have hik2 := t.hIK2
  obtain ⟨J, y, hJ⟩ := last_of (show 0 < na.its.length by omega)
  have hJl : na.its.length = J.length + 1 := by rw [hJ]; simp
  by_cases hz : h = 0
  · have ea := t.a0 hz
    have eb := t.b0 hz
    have ka := t.ka
    have kb := t.kb
    rw [ea] at ka
    obtain ⟨rfl, _⟩ := ka.nil
    rw [eb] at kb
    obtain ⟨rfl, _⟩ := kb.nil
    refine (moveBehind_ (ca := []) (cb := []) hs t.hq t.ha t.hb t.ap.qa t.ap.qb t.ap.ab t.hI t.hK t.hIK hJ (by omega) (by omega) (by omega) (by omega) (by omega) (.inl ⟨ea, rfl, eb.symm⟩)).mono fun e w' hm => ?_
    rw [t.hK] at hm
    exact fin_two hm hik hik2 ll1 t.k1 t.k2 ka kb ⟨by omega, by omega⟩ ⟨by simp; omega, by simp; omega⟩ (fun _ => rfl) (fun z => (z hz).elim) (fun _ => rfl) (fun z => (z hz).elim) t.dAB (fun _ => Iff.rfl) t.ap t.hF (by rw [hJ]; simp [weave_nil])
  · have ea := t.a1 hz
    have eb := t.b1 hz
    obtain ⟨C, d, hC⟩ := last_of (show 0 < na.ks.length by omega)
    have hCl : na.ks.length = C.length + 1 := by rw [hC]; simp
    have ka := t.ka
    rw [hC] at ka
    obtain ⟨la1, lb1, FC, FD, rfl, kC, kD, dCD, hFCD⟩ := ka.split
    have lC := kC.len
    have lD := kD.len
    obtain ⟨ld, rfl⟩ : ∃ ld, lb1 = [ld] := by
      match lb1, lD with
      | [ld], _ => exact ⟨ld, rfl⟩
    refine (moveBehind_ (ca := C) (cb := d :: nb.ks) hs t.hq t.ha t.hb t.ap.qa t.ap.qb t.ap.ab t.hI t.hK t.hIK hJ (by omega) (by omega) (by omega) (by omega) (by omega) (.inr ⟨d, hC, rfl⟩)).mono fun e w' hm => ?_
    rw [t.hK] at hm
    have kB := kD.append t.kb (fun x hx g => t.dAB x ((hFCD x).2 (.inr hx)) g)
    refine fin_two (la := la1) (lb := [ld] ++ lb) (FB := fun x => FD x ∨ FB x) hm hik hik2 ll1 t.k1 t.k2 kC kB ⟨by omega, by omega⟩ ⟨by simp; omega, by simp; omega⟩ (fun z => (hz z).elim) (fun _ => by omega) (fun z => (hz z).elim) (fun _ => by simp; omega) (fun x hx g => g.elim (dCD x hx) (t.dAB x ((hFCD x).2 (.inl hx)))) (fun x => ?_) t.ap t.hF ?_
    · show FA x ∨ FB x ↔ _
      rw [hFCD, or_assoc]
    · rw [hJ, weave_cut J y [] la1 [ld] (by omega)]
      simp [weave]
theorem tmoveA {w : World} {M : Nat → Option Nd} {h q a b : Nat} {n na nb : Nd} {I1 I2 : List It} {x : It} {K1 K2 : List Nat} {L1 L2 la lb : List (List It)} {F1 FA FB F2 F : Nat → Prop} (hs : Store w M) (t : Duo M h q a b n na nb I1 x I2 K1 K2 L1 L2 la lb F1 FA FB F2 F) (h4 : 3 < nb.its.length) (h2 : na.its.length = 2) :
    Calls Tryz.prog 79 #[.pointer (some ⟨q, 0, none⟩), .int .i64 I1.length] w (FillN M (h + 1) q (n.its.length - 1) n.its.length (pre I1 L1 ++ (weave na.its la ++ x :: (weave nb.its lb ++ suf I2 L2))) F w) := by
  obtain ⟨ll1, ll2, ll3, ll4⟩ := t.len
  have hn := t.hn
  have hnb := t.hnb
  have hik := t.hIK
  have hik2 := t.hIK2
  obtain ⟨y, J, hJ⟩ : ∃ y J, nb.its = y :: J := by
    cases hc : nb.its with
    | nil => rw [hc] at h4; simp at h4
    | cons y J => exact ⟨y, J, rfl⟩
  have hJl : nb.its.length = J.length + 1 := by rw [hJ]; simp
  by_cases hz : h = 0
  · have ea := t.a0 hz
    have eb := t.b0 hz
    have ka := t.ka
    have kb := t.kb
    rw [ea] at ka
    obtain ⟨rfl, _⟩ := ka.nil
    rw [eb] at kb
    obtain ⟨rfl, _⟩ := kb.nil
    refine (moveAhead_ (ca := []) (cb := []) hs t.hq t.ha t.hb t.ap.qa t.ap.qb t.ap.ab t.hI t.hK t.hIK hJ (by omega) (by omega) (by omega) (by omega) (by omega) (.inl ⟨eb, ea.symm, rfl⟩)).mono fun e w' hm => ?_
    rw [t.hK] at hm
    exact fin_two hm hik hik2 ll1 t.k1 t.k2 ka kb ⟨by simp; omega, by simp; omega⟩ ⟨by omega, by omega⟩ (fun _ => rfl) (fun z => (z hz).elim) (fun _ => rfl) (fun z => (z hz).elim) t.dAB (fun _ => Iff.rfl) t.ap t.hF (by rw [hJ]; simp [weave_nil])
  · have ea := t.a1 hz
    have eb := t.b1 hz
    obtain ⟨d, C, hC⟩ : ∃ d C, nb.ks = d :: C := by
      cases hc : nb.ks with
      | nil => rw [hc] at eb; simp at eb
      | cons d C => exact ⟨d, C, rfl⟩
    have hCl : nb.ks.length = C.length + 1 := by rw [hC]; simp
    have kb := t.kb
    rw [hC, show d :: C = [d] ++ C from rfl] at kb
    obtain ⟨lb1, lb2, FD, FC, rfl, kD, kC, dCD, hFCD⟩ := kb.split
    have lC := kC.len
    have lD := kD.len
    obtain ⟨ld, rfl⟩ : ∃ ld, lb1 = [ld] := by
      match lb1, lD with
      | [ld], _ => exact ⟨ld, rfl⟩
    have lA := t.ka.len
    refine (moveAhead_ (ca := na.ks ++ [d]) (cb := C) hs t.hq t.ha t.hb t.ap.qa t.ap.qb t.ap.ab t.hI t.hK t.hIK hJ (by omega) (by omega) (by omega) (by omega) (by omega) (.inr ⟨d, hC, rfl⟩)).mono fun e w' hm => ?_
    rw [t.hK] at hm
    have kA := t.ka.append kD (fun x hx g => t.dAB x hx ((hFCD x).2 (.inl g)))
    refine fin_two (la := la ++ [ld]) (lb := lb2) (FA := fun x => FA x ∨ FD x) hm hik hik2 ll1 t.k1 t.k2 kA kC ⟨by simp; omega, by simp; omega⟩ ⟨by omega, by omega⟩ (fun z => (hz z).elim) (fun _ => by simp; omega) (fun z => (hz z).elim) (fun _ => by omega) (fun x hx g => hx.elim (fun k => t.dAB x k ((hFCD x).2 (.inr g))) (fun k => dCD x k g)) (fun x => ?_) t.ap t.hF ?_
    · show FA x ∨ FB x ↔ _
      rw [hFCD, or_assoc]
    · rw [hJ, weave_cut na.its x [] la [ld] (by omega)]
      simp [weave]
theorem tjoin {w : World} {M : Nat → Option Nd} {h q a b : Nat} {n na nb : Nd} {I1 I2 : List It} {x : It} {K1 K2 : List Nat} {L1 L2 la lb : List (List It)} {F1 FA FB F2 F : Nat → Prop} (hs : Store w M) (t : Duo M h q a b n na nb I1 x I2 K1 K2 L1 L2 la lb F1 FA FB F2 F) (h2 : 2 ≤ na.its.length + nb.its.length) (h6 : na.its.length + nb.its.length ≤ 6) :
    Calls Tryz.prog 80 #[.pointer (some ⟨q, 0, none⟩), .int .i64 I1.length] w (FillN M (h + 1) q (n.its.length - 1) n.its.length (pre I1 L1 ++ (weave na.its la ++ x :: (weave nb.its lb ++ suf I2 L2))) F w) := by
  obtain ⟨ll1, ll2, ll3, ll4⟩ := t.len
  have hn := t.hn
  have hik := t.hIK
  have hik2 := t.hIK2
  have lA := t.ka.len
  refine (join_ hs t.hq t.ha t.hb t.ap.qa t.ap.qb t.ap.ab t.hI t.hK t.hIK (by omega) (by omega) (by omega) (by omega) (by omega) (by omega)).mono fun e w' hm => ?_
  refine fin_one (la := la ++ lb) hm hik hik2 ll1 t.k1 t.k2 (t.ka.append t.kb t.dAB) ⟨by simp; omega, by simp; omega⟩ (fun z => by rw [t.a0 z, t.b0 z]; rfl) (fun z => by have := t.a1 z; have := t.b1 z; simp; omega) t.ap t.hF ?_
  by_cases hz : h = 0
  · have ka := t.ka
    have kb := t.kb
    rw [t.a0 hz] at ka
    obtain ⟨rfl, _⟩ := ka.nil
    rw [t.b0 hz] at kb
    obtain ⟨rfl, _⟩ := kb.nil
    simp [weave_nil]
  · have := t.a1 hz
    rw [weave_cut na.its x nb.its la lb (by omega)]
    simp
end Go.Proofs.YtagamkahfiackaaGreatDoor
