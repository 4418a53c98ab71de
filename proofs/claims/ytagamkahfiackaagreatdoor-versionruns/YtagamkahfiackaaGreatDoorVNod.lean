/- Trees over a store: what a node holds, and which nodes are below it. -/
import Derived.Test.YtagamkahfiackaaGreatDoorVMem
namespace Go.Proofs.YtagamkahfiackaaGreatDoor
open Go.RowKit Go.Sort

/-- Children in a row, each with what it holds; their nodes are apart. -/
def Kids (R : Nat → List It → (Nat → Prop) → Prop) : List Nat → List (List It) → (Nat → Prop) → Prop
  | [], [], F => ∀ x, ¬ F x
  | k :: ks, l :: ls, F => ∃ Fk Fr, R k l Fk ∧ Kids R ks ls Fr ∧ (∀ x, Fk x → ¬ Fr x) ∧ (∀ x, F x ↔ Fk x ∨ Fr x)
  | _, _, _ => False
/-- A node at height h, with m to mx items, that holds l; F: the nodes of it. -/
def Nod (M : Nat → Option Nd) : Nat → Nat → Nat → Nat → List It → (Nat → Prop) → Prop
  | 0, _, _, _, _, _ => False
  | h + 1, m, mx, q, l, F => ∃ n ls Fk, M q = some n ∧ m ≤ n.its.length ∧ n.its.length ≤ mx ∧ (h = 0 → n.ks = []) ∧ (h ≠ 0 → n.ks.length = n.its.length + 1) ∧ Kids (Nod M h 3 7) n.ks ls Fk ∧ l = weave n.its ls ∧ ¬ Fk q ∧ (∀ x, F x ↔ x = q ∨ Fk x)
theorem Kids.len {R : Nat → List It → (Nat → Prop) → Prop} : ∀ {ks : List Nat} {ls : List (List It)} {F : Nat → Prop}, Kids R ks ls F → ks.length = ls.length
  | [], [], _, _ => rfl
  | [], _ :: _, _, h => h.elim
  | _ :: _, [], _, h => h.elim
  | _ :: ks, _ :: ls, _, ⟨_, _, _, h, _⟩ => by rw [List.length_cons, List.length_cons, Kids.len h]
theorem Kids.turn {R R' : Nat → List It → (Nat → Prop) → Prop} : ∀ {ks : List Nat} {ls : List (List It)} {F : Nat → Prop}, Kids R ks ls F → (∀ k l F', (∀ x, F' x → F x) → R k l F' → R' k l F') → Kids R' ks ls F
  | [], [], _, h, _ => h
  | [], _ :: _, _, h, _ => h.elim
  | _ :: _, [], _, h, _ => h.elim
  | k :: _, l :: _, _, ⟨Fk, Fr, h1, h2, h3, h4⟩, hR => ⟨Fk, Fr, hR k l Fk (fun x hx => (h4 x).2 (.inl hx)) h1, Kids.turn h2 (fun k l F' hs => hR k l F' fun x hx => (h4 x).2 (.inr (hs x hx))), h3, h4⟩
theorem Kids.same {R : Nat → List It → (Nat → Prop) → Prop} : ∀ {ks : List Nat} {ls : List (List It)} {F F' : Nat → Prop}, Kids R ks ls F → (∀ x, F' x ↔ F x) → Kids R ks ls F'
  | [], [], _, _, h, hF => fun x hx => h x ((hF x).1 hx)
  | [], _ :: _, _, _, h, _ => h.elim
  | _ :: _, [], _, _, h, _ => h.elim
  | _ :: _, _ :: _, _, _, ⟨Fk, Fr, h1, h2, h3, h4⟩, hF => ⟨Fk, Fr, h1, h2, h3, fun x => (hF x).trans (h4 x)⟩
theorem Kids.nil {R : Nat → List It → (Nat → Prop) → Prop} {ls : List (List It)} {F : Nat → Prop} (h : Kids R [] ls F) : ls = [] ∧ ∀ x, ¬ F x := by
  cases ls with
  | nil => exact ⟨rfl, h⟩
  | cons l ls => exact h.elim
theorem kids_nil {R : Nat → List It → (Nat → Prop) → Prop} : Kids R [] [] (fun _ => False) := fun _ h => h
theorem Kids.append {R : Nat → List It → (Nat → Prop) → Prop} : ∀ {A B : List Nat} {la lb : List (List It)} {FA FB : Nat → Prop}, Kids R A la FA → Kids R B lb FB → (∀ x, FA x → ¬ FB x) → Kids R (A ++ B) (la ++ lb) (fun x => FA x ∨ FB x)
  | [], _, [], _, _, _, h1, h2, _ => h2.same fun x => ⟨fun h => h.elim (fun q => (h1 x q).elim) id, .inr⟩
  | [], _, _ :: _, _, _, _, h1, _, _ => h1.elim
  | _ :: _, _, [], _, _, _, h1, _, _ => h1.elim
  | k :: A, B, l :: la, lb, FA, FB, ⟨Fk, Fr, h1, h2, h3, h4⟩, hB, hd => by
    have ih := Kids.append h2 hB (fun x hx => hd x ((h4 x).2 (.inr hx)))
    refine ⟨Fk, _, h1, ih, fun x hx => ?_, fun x => ?_⟩
    · rintro (q | q)
      · exact h3 x hx q
      · exact hd x ((h4 x).2 (.inl hx)) q
    · show FA x ∨ FB x ↔ _
      rw [h4]; constructor
      · rintro ((q | q) | q)
        · exact .inl q
        · exact .inr (.inl q)
        · exact .inr (.inr q)
      · rintro (q | q | q)
        · exact .inl (.inl q)
        · exact .inl (.inr q)
        · exact .inr q
theorem Kids.split {R : Nat → List It → (Nat → Prop) → Prop} : ∀ {A B : List Nat} {ls : List (List It)} {F : Nat → Prop}, Kids R (A ++ B) ls F → ∃ la lb FA FB, ls = la ++ lb ∧ Kids R A la FA ∧ Kids R B lb FB ∧ (∀ x, FA x → ¬ FB x) ∧ (∀ x, F x ↔ FA x ∨ FB x)
  | [], B, ls, F, h => ⟨[], ls, fun _ => False, F, rfl, kids_nil, h, fun _ hx => hx.elim, fun x => ⟨.inr, fun q => q.elim False.elim id⟩⟩
  | _ :: _, _, [], _, h => h.elim
  | k :: A, B, l :: ls, F, ⟨Fk, Fr, h1, h2, h3, h4⟩ => by
    obtain ⟨la, lb, FA, FB, rfl, hA, hB, hd, hF⟩ := Kids.split h2
    refine ⟨l :: la, lb, fun x => Fk x ∨ FA x, FB, rfl, ⟨Fk, FA, h1, hA, fun x hx q => h3 x hx ((hF x).2 (.inl q)), fun _ => Iff.rfl⟩, hB, ?_, fun x => ?_⟩
    · rintro x (q | q) q'
      · exact h3 x q ((hF x).2 (.inr q'))
      · exact hd x q q'
    · rw [h4, hF]; constructor
      · rintro (q | q | q)
        · exact .inl (.inl q)
        · exact .inl (.inr q)
        · exact .inr q
      · rintro ((q | q) | q)
        · exact .inl q
        · exact .inr (.inl q)
        · exact .inr (.inr q)
/-- One child among them. -/
theorem Kids.at {R : Nat → List It → (Nat → Prop) → Prop} {A B : List Nat} {p : Nat} {ls : List (List It)} {F : Nat → Prop} (h : Kids R (A ++ p :: B) ls F) :
    ∃ la l lb FA Fp FB, ls = la ++ l :: lb ∧ Kids R A la FA ∧ R p l Fp ∧ Kids R B lb FB ∧ (∀ x, FA x → ¬ Fp x) ∧ (∀ x, FA x → ¬ FB x) ∧ (∀ x, Fp x → ¬ FB x) ∧ (∀ x, F x ↔ FA x ∨ Fp x ∨ FB x) := by
  obtain ⟨la, lb, FA, FB, rfl, hA, hB, hd, hF⟩ := h.split
  cases lb with
  | nil => exact hB.elim
  | cons l lb =>
    obtain ⟨Fp, Fr, h1, h2, h3, h4⟩ := hB
    exact ⟨la, l, lb, FA, Fp, Fr, rfl, hA, h1, h2, fun x hx q => hd x hx ((h4 x).2 (.inl q)), fun x hx q => hd x hx ((h4 x).2 (.inr q)), h3, fun x => by rw [hF, h4]⟩
theorem kids_one {R : Nat → List It → (Nat → Prop) → Prop} {p : Nat} {l : List It} {Fp : Nat → Prop} (h : R p l Fp) : Kids R [p] [l] Fp := ⟨Fp, fun _ => False, h, kids_nil, fun _ _ q => q, fun _ => ⟨.inl, fun q => q.elim id False.elim⟩⟩
theorem kids_at {R : Nat → List It → (Nat → Prop) → Prop} {A B : List Nat} {p : Nat} {la lb : List (List It)} {l : List It} {FA Fp FB : Nat → Prop} (hA : Kids R A la FA) (hp : R p l Fp) (hB : Kids R B lb FB) (h1 : ∀ x, FA x → ¬ Fp x) (h2 : ∀ x, FA x → ¬ FB x) (h3 : ∀ x, Fp x → ¬ FB x) : Kids R (A ++ p :: B) (la ++ l :: lb) (fun x => FA x ∨ Fp x ∨ FB x) :=
  hA.append (B := p :: B) (lb := l :: lb) (FB := fun x => Fp x ∨ FB x) ⟨Fp, FB, hp, hB, h3, fun _ => Iff.rfl⟩ (fun x hx q => q.elim (h1 x hx) (h2 x hx))
theorem kids_two {R : Nat → List It → (Nat → Prop) → Prop} {A B : List Nat} {p p' : Nat} {la lb : List (List It)} {l l' : List It} {FA Fp Fp' FB : Nat → Prop} (hA : Kids R A la FA) (hp : R p l Fp) (hp' : R p' l' Fp') (hB : Kids R B lb FB) (h1 : ∀ x, FA x → ¬ Fp x) (h1' : ∀ x, FA x → ¬ Fp' x) (h2 : ∀ x, FA x → ¬ FB x) (h3 : ∀ x, Fp x → ¬ FB x) (h3' : ∀ x, Fp' x → ¬ FB x) (h4 : ∀ x, Fp x → ¬ Fp' x) : Kids R (A ++ p :: p' :: B) (la ++ l :: l' :: lb) (fun x => FA x ∨ Fp x ∨ Fp' x ∨ FB x) :=
  hA.append (B := p :: p' :: B) (lb := l :: l' :: lb) (FB := fun x => Fp x ∨ Fp' x ∨ FB x) ⟨Fp, fun x => Fp' x ∨ FB x, hp, ⟨Fp', FB, hp', hB, h3', fun _ => Iff.rfl⟩, fun x hx q => q.elim (h4 x hx) (h3 x hx), fun _ => Iff.rfl⟩ (fun x hx q => q.elim (h1 x hx) fun q => q.elim (h1' x hx) (h2 x hx))
theorem Nod.frame {M M' : Nat → Option Nd} : ∀ {h m mx q : Nat} {l : List It} {F : Nat → Prop}, Nod M h m mx q l F → (∀ k, F k → M' k = M k) → Nod M' h m mx q l F
  | 0, _, _, _, _, _, hN, _ => hN.elim
  | _ + 1, _, _, q, _, _, ⟨n, ls, Fk, h1, h2, h3, h4, h5, h6, h7, h8, h9⟩, hM =>
    ⟨n, ls, Fk, (hM q ((h9 q).2 (.inl rfl))).trans h1, h2, h3, h4, h5, h6.turn fun _ _ _ hs hR => Nod.frame hR fun x hx => hM x ((h9 x).2 (.inr (hs x hx))), h7, h8, h9⟩
theorem Kids.frame {M M' : Nat → Option Nd} {h m mx : Nat} {ks : List Nat} {ls : List (List It)} {F : Nat → Prop} (hK : Kids (Nod M h m mx) ks ls F) (hM : ∀ k, F k → M' k = M k) : Kids (Nod M' h m mx) ks ls F :=
  hK.turn fun _ _ _ hs hR => hR.frame fun x hx => hM x (hs x hx)
theorem Nod.wide {M : Nat → Option Nd} {h m mx m' mx' q : Nat} {l : List It} {F : Nat → Prop} (hN : Nod M h m mx q l F) (hm : m' ≤ m) (hx : mx ≤ mx') : Nod M h m' mx' q l F := by
  cases h with
  | zero => exact hN.elim
  | succ h =>
    obtain ⟨n, ls, Fk, h1, h2, h3, h4⟩ := hN
    exact ⟨n, ls, Fk, h1, Nat.le_trans hm h2, Nat.le_trans h3 hx, h4⟩
theorem Nod.same {M : Nat → Option Nd} {h m mx q : Nat} {l l' : List It} {F F' : Nat → Prop} (hN : Nod M h m mx q l F) (hl : l' = l) (hF : ∀ x, F' x ↔ F x) : Nod M h m mx q l' F' := by
  cases h with
  | zero => exact hN.elim
  | succ h =>
    obtain ⟨n, ls, Fk, h1, h2, h3, h4, h5, h6, h7, h8, h9⟩ := hN
    exact ⟨n, ls, Fk, h1, h2, h3, h4, h5, h6, hl.trans h7, h8, fun x => (hF x).trans (h9 x)⟩
theorem Nod.self {M : Nat → Option Nd} {h m mx q : Nat} {l : List It} {F : Nat → Prop} (hN : Nod M h m mx q l F) : F q := by
  cases h with
  | zero => exact hN.elim
  | succ h =>
    obtain ⟨n, ls, Fk, _, _, _, _, _, _, _, _, h9⟩ := hN
    exact (h9 q).2 (.inl rfl)
theorem Nod.there {M : Nat → Option Nd} : ∀ {h m mx q : Nat} {l : List It} {F : Nat → Prop}, Nod M h m mx q l F → ∀ x, F x → ∃ n, M x = some n
  | 0, _, _, _, _, _, hN => hN.elim
  | h + 1, m, mx, q, l, F, ⟨n, ls, Fk, h1, h2, h3, h4, h5, h6, h7, h8, h9⟩ => by
    intro x hx
    rcases (h9 x).1 hx with rfl | hx
    · exact ⟨n, h1⟩
    · have key : ∀ {ks : List Nat} {ls : List (List It)} {F : Nat → Prop}, Kids (Nod M h 3 7) ks ls F → ∀ x, F x → ∃ n, M x = some n := by
        intro ks
        induction ks with
        | nil => intro ls F hK x hx; exact ((hK.nil).2 x hx).elim
        | cons k ks ih =>
          intro ls F hK x hx
          cases ls with
          | nil => exact hK.elim
          | cons l ls =>
            obtain ⟨Fk, Fr, g1, g2, g3, g4⟩ := hK
            rcases (g4 x).1 hx with q | q
            · exact Nod.there g1 x q
            · exact ih g2 x q
      exact key h6 x hx
theorem Kids.there {M : Nat → Option Nd} {h m mx : Nat} : ∀ {ks : List Nat} {ls : List (List It)} {F : Nat → Prop}, Kids (Nod M h m mx) ks ls F → ∀ x, F x → ∃ n, M x = some n
  | [], [], _, hK, x, hx => (hK x hx).elim
  | [], _ :: _, _, hK, _, _ => hK.elim
  | _ :: _, [], _, hK, _, _ => hK.elim
  | _ :: _, _ :: _, _, ⟨_, _, g1, g2, _, g4⟩, x, hx => by
    rcases (g4 x).1 hx with q | q
    · exact g1.there x q
    · exact Kids.there g2 x q
theorem Nod.lt {w : World} {M : Nat → Option Nd} (hs : Store w M) {h m mx q : Nat} {l : List It} {F : Nat → Prop} (hN : Nod M h m mx q l F) : ∀ x, F x → x < w.heap.size := fun x hx => by
  obtain ⟨n, hn⟩ := hN.there x hx
  exact hs.node_lt hn
theorem Kids.lt {w : World} {M : Nat → Option Nd} (hs : Store w M) {h m mx : Nat} {ks : List Nat} {ls : List (List It)} {F : Nat → Prop} (hK : Kids (Nod M h m mx) ks ls F) : ∀ x, F x → x < w.heap.size := fun x hx => by
  obtain ⟨n, hn⟩ := hK.there x hx
  exact hs.node_lt hn
/-- What a call leaves of the nodes of F: those of F'. -/
structure Kept (M M' : Nat → Option Nd) (F F' : Nat → Prop) (w w' : World) : Prop where
  st : Store w' M'
  ext : Ext (Own M) (Own M') w w'
  rest : ∀ k, k < w.heap.size → ¬ F k → M' k = M k
  new : ∀ k, F' k → F k ∨ w.heap.size ≤ k
end Go.Proofs.YtagamkahfiackaaGreatDoor
