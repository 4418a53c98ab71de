/- Trees over a store: what a node holds, and which nodes are below it; What put leans on: find told plainly; a value set in its place; a child split, as a tree. -/
import Derived.Test.YtalmanfjiblhcaaGreatJ6
import Derived.Test.YtalmanfjiblhcaaGreatVSplit2
namespace Go.Proofs.YtalmanfjiblhcaaGreat
open Go.RowKit Go.Sort
def Kids (R : Nat → List It → (Nat → Prop) → Prop) : List Nat → List (List It) → (Nat → Prop) → Prop
 | [], [], F => ∀ x, ¬ F x
 | k :: ks, l :: ls, F => ∃ Fk Fr, R k l Fk ∧ Kids R ks ls Fr ∧ (∀ x, Fk x → ¬ Fr x) ∧ (∀ x, F x ↔ Fk x ∨ Fr x)
 | _, _, _ => False
def Nod (M : Nat → Option Nd) : Nat → Nat → Nat → Nat → List It → (Nat → Prop) → Prop
 | 0, _, _, _, _, _ => False
 | h + 1, m, mx, q, l, F => ∃ n ls Fk, M q = some n ∧ m ≤ n.its.length ∧ n.its.length ≤ mx ∧ (h = 0 → n.ks = []) ∧ (h ≠ 0 → n.ks.length = n.its.length + 1) ∧ Kids (Nod M h 3 7) n.ks ls Fk ∧ l = weave n.its ls ∧ ¬ Fk q ∧ (∀ x, F x ↔ x = q ∨ Fk x)
theorem Kids.len {R : Nat → List It → (Nat → Prop) → Prop} : ∀ {ks : List Nat} {ls : List (List It)} {F : Nat → Prop}, Kids R ks ls F → ks.length = ls.length
 | [], [], _, _ => rfl
 | [], _ :: _, _, h => h.elim
 | _ :: _, [], _, h => h.elim
 | _ :: ks, _ :: ls, _, ⟨_, _, _, h, _⟩ => by rw [List.length_cons, List.length_cons, Kids.len h]
theorem Kids.turn {R R' : Nat → List It → (Nat → Prop) → Prop} : ∀ {ks : List Nat} {ls : List (List It)} {F : Nat → Prop}, Kids R ks ls F → (∀ k l F', (∀ x, F' x → F x) → R k l F' → R' k l F') → Kids R' ks ls F
 | [], [], _, h, _ => h
 | [], _ :: _, _, h, _ => h.elim
 | _ :: _, [], _, h, _ => h.elim
 | k :: _, l :: _, _, ⟨Fk, Fr, h1, h2, h3, h4⟩, hR => ⟨Fk, Fr, hR k l Fk (fun x hx => (h4 x).2 (.inl hx)) h1, Kids.turn h2 (fun k l F' hs => hR k l F' fun x hx => (h4 x).2 (.inr (hs x hx))), h3, h4⟩
theorem Kids.same {R : Nat → List It → (Nat → Prop) → Prop} : ∀ {ks : List Nat} {ls : List (List It)} {F F' : Nat → Prop}, Kids R ks ls F → (∀ x, F' x ↔ F x) → Kids R ks ls F'
 | [], [], _, _, h, hF => fun x hx => h x ((hF x).1 hx)
 | [], _ :: _, _, _, h, _ => h.elim
 | _ :: _, [], _, _, h, _ => h.elim
 | _ :: _, _ :: _, _, _, ⟨Fk, Fr, h1, h2, h3, h4⟩, hF => ⟨Fk, Fr, h1, h2, h3, fun x => (hF x).trans (h4 x)⟩
theorem Kids.nil {R : Nat → List It → (Nat → Prop) → Prop} {ls : List (List It)} {F : Nat → Prop} (h : Kids R [] ls F) : ls = [] ∧ ∀ x, ¬ F x := by
 cases ls with
 | nil => exact ⟨rfl, h⟩
 | cons l ls => exact h.elim
theorem kids_nil {R : Nat → List It → (Nat → Prop) → Prop} : Kids R [] [] (fun _ => False) := fun _ h => h
theorem Kids.append {R : Nat → List It → (Nat → Prop) → Prop} : ∀ {A B : List Nat} {la lb : List (List It)} {FA FB : Nat → Prop}, Kids R A la FA → Kids R B lb FB → (∀ x, FA x → ¬ FB x) → Kids R (A ++ B) (la ++ lb) (fun x => FA x ∨ FB x)
 | [], _, [], _, _, _, h1, h2, _ => h2.same fun x => ⟨fun h => h.elim (fun q => (h1 x q).elim) id, .inr⟩
 | [], _, _ :: _, _, _, _, h1, _, _ => h1.elim
 | _ :: _, _, [], _, _, _, h1, _, _ => h1.elim
 | k :: A, B, l :: la, lb, FA, FB, ⟨Fk, Fr, h1, h2, h3, h4⟩, hB, hd => by
   have ih := Kids.append h2 hB (fun x hx => hd x ((h4 x).2 (.inr hx)))
   refine ⟨Fk, _, h1, ih, fun x hx => ?_, fun x => ?_⟩
   · rintro (q | q)
     · exact h3 x hx q
     · exact hd x ((h4 x).2 (.inl hx)) q
   · show FA x ∨ FB x ↔ _
     rw [h4]; constructor
     · rintro ((q | q) | q)
       · exact .inl q
       · exact .inr (.inl q)
       · exact .inr (.inr q)
     · rintro (q | q | q)
       · exact .inl (.inl q)
       · exact .inl (.inr q)
       · exact .inr q
theorem Kids.split {R : Nat → List It → (Nat → Prop) → Prop} : ∀ {A B : List Nat} {ls : List (List It)} {F : Nat → Prop}, Kids R (A ++ B) ls F → ∃ la lb FA FB, ls = la ++ lb ∧ Kids R A la FA ∧ Kids R B lb FB ∧ (∀ x, FA x → ¬ FB x) ∧ (∀ x, F x ↔ FA x ∨ FB x)
 | [], B, ls, F, h => ⟨[], ls, fun _ => False, F, rfl, kids_nil, h, fun _ hx => hx.elim, fun x => ⟨.inr, fun q => q.elim False.elim id⟩⟩
 | _ :: _, _, [], _, h => h.elim
 | k :: A, B, l :: ls, F, ⟨Fk, Fr, h1, h2, h3, h4⟩ => by
   obtain ⟨la, lb, FA, FB, rfl, hA, hB, hd, hF⟩ := Kids.split h2
   refine ⟨l :: la, lb, fun x => Fk x ∨ FA x, FB, rfl, ⟨Fk, FA, h1, hA, fun x hx q => h3 x hx ((hF x).2 (.inl q)), fun _ => Iff.rfl⟩, hB, ?_, fun x => ?_⟩
   · rintro x (q | q) q'
     · exact h3 x q ((hF x).2 (.inr q'))
     · exact hd x q q'
   · rw [h4, hF]; constructor
     · rintro (q | q | q)
       · exact .inl (.inl q)
       · exact .inl (.inr q)
       · exact .inr q
     · rintro ((q | q) | q)
       · exact .inl q
       · exact .inr (.inl q)
       · exact .inr (.inr q)
theorem Kids.at {R : Nat → List It → (Nat → Prop) → Prop} {A B : List Nat} {p : Nat} {ls : List (List It)} {F : Nat → Prop} (h : Kids R (A ++ p :: B) ls F) :
 ∃ la l lb FA Fp FB, ls = la ++ l :: lb ∧ Kids R A la FA ∧ R p l Fp ∧ Kids R B lb FB ∧ (∀ x, FA x → ¬ Fp x) ∧ (∀ x, FA x → ¬ FB x) ∧ (∀ x, Fp x → ¬ FB x) ∧ (∀ x, F x ↔ FA x ∨ Fp x ∨ FB x) := by
 obtain ⟨la, lb, FA, FB, rfl, hA, hB, hd, hF⟩ := h.split
 cases lb with
 | nil => exact hB.elim
 | cons l lb =>
   obtain ⟨Fp, Fr, h1, h2, h3, h4⟩ := hB
   exact ⟨la, l, lb, FA, Fp, Fr, rfl, hA, h1, h2, fun x hx q => hd x hx ((h4 x).2 (.inl q)), fun x hx q => hd x hx ((h4 x).2 (.inr q)), h3, fun x => by rw [hF, h4]⟩
theorem kids_at {R : Nat → List It → (Nat → Prop) → Prop} {A B : List Nat} {p : Nat} {la lb : List (List It)} {l : List It} {FA Fp FB : Nat → Prop} (hA : Kids R A la FA) (hp : R p l Fp) (hB : Kids R B lb FB) (h1 : ∀ x, FA x → ¬ Fp x) (h2 : ∀ x, FA x → ¬ FB x) (h3 : ∀ x, Fp x → ¬ FB x) : Kids R (A ++ p :: B) (la ++ l :: lb) (fun x => FA x ∨ Fp x ∨ FB x) :=
 hA.append (B := p :: B) (lb := l :: lb) (FB := fun x => Fp x ∨ FB x) ⟨Fp, FB, hp, hB, h3, fun _ => Iff.rfl⟩ (fun x hx q => q.elim (h1 x hx) (h2 x hx))
theorem kids_two {R : Nat → List It → (Nat → Prop) → Prop} {A B : List Nat} {p p' : Nat} {la lb : List (List It)} {l l' : List It} {FA Fp Fp' FB : Nat → Prop} (hA : Kids R A la FA) (hp : R p l Fp) (hp' : R p' l' Fp') (hB : Kids R B lb FB) (h1 : ∀ x, FA x → ¬ Fp x) (h1' : ∀ x, FA x → ¬ Fp' x) (h2 : ∀ x, FA x → ¬ FB x) (h3 : ∀ x, Fp x → ¬ FB x) (h3' : ∀ x, Fp' x → ¬ FB x) (h4 : ∀ x, Fp x → ¬ Fp' x) : Kids R (A ++ p :: p' :: B) (la ++ l :: l' :: lb) (fun x => FA x ∨ Fp x ∨ Fp' x ∨ FB x) :=
 hA.append (B := p :: p' :: B) (lb := l :: l' :: lb) (FB := fun x => Fp x ∨ Fp' x ∨ FB x) ⟨Fp, fun x => Fp' x ∨ FB x, hp, ⟨Fp', FB, hp', hB, h3', fun _ => Iff.rfl⟩, fun x hx q => q.elim (h4 x hx) (h3 x hx), fun _ => Iff.rfl⟩ (fun x hx q => q.elim (h1 x hx) fun q => q.elim (h1' x hx) (h2 x hx))
theorem Nod.frame {M M' : Nat → Option Nd} : ∀ {h m mx q : Nat} {l : List It} {F : Nat → Prop}, Nod M h m mx q l F → (∀ k, F k → M' k = M k) → Nod M' h m mx q l F
 | 0, _, _, _, _, _, hN, _ => hN.elim
 | _ + 1, _, _, q, _, _, ⟨n, ls, Fk, h1, h2, h3, h4, h5, h6, h7, h8, h9⟩, hM =>
   ⟨n, ls, Fk, (hM q ((h9 q).2 (.inl rfl))).trans h1, h2, h3, h4, h5, h6.turn fun _ _ _ hs hR => Nod.frame hR fun x hx => hM x ((h9 x).2 (.inr (hs x hx))), h7, h8, h9⟩
theorem Kids.frame {M M' : Nat → Option Nd} {h m mx : Nat} {ks : List Nat} {ls : List (List It)} {F : Nat → Prop} (hK : Kids (Nod M h m mx) ks ls F) (hM : ∀ k, F k → M' k = M k) : Kids (Nod M' h m mx) ks ls F :=
 hK.turn fun _ _ _ hs hR => hR.frame fun x hx => hM x (hs x hx)
theorem Nod.wide {M : Nat → Option Nd} {h m mx m' mx' q : Nat} {l : List It} {F : Nat → Prop} (hN : Nod M h m mx q l F) (hm : m' ≤ m) (hx : mx ≤ mx') : Nod M h m' mx' q l F := by
 cases h with
 | zero => exact hN.elim
 | succ h =>
   obtain ⟨n, ls, Fk, h1, h2, h3, h4⟩ := hN
   exact ⟨n, ls, Fk, h1, Nat.le_trans hm h2, Nat.le_trans h3 hx, h4⟩
theorem Nod.same {M : Nat → Option Nd} {h m mx q : Nat} {l l' : List It} {F F' : Nat → Prop} (hN : Nod M h m mx q l F) (hl : l' = l) (hF : ∀ x, F' x ↔ F x) : Nod M h m mx q l' F' := by
 cases h with
 | zero => exact hN.elim
 | succ h =>
   obtain ⟨n, ls, Fk, h1, h2, h3, h4, h5, h6, h7, h8, h9⟩ := hN
   exact ⟨n, ls, Fk, h1, h2, h3, h4, h5, h6, hl.trans h7, h8, fun x => (hF x).trans (h9 x)⟩
theorem Nod.self {M : Nat → Option Nd} {h m mx q : Nat} {l : List It} {F : Nat → Prop} (hN : Nod M h m mx q l F) : F q := by
 cases h with
 | zero => exact hN.elim
 | succ h =>
   obtain ⟨n, ls, Fk, _, _, _, _, _, _, _, _, h9⟩ := hN
   exact (h9 q).2 (.inl rfl)
theorem Nod.there {M : Nat → Option Nd} : ∀ {h m mx q : Nat} {l : List It} {F : Nat → Prop}, Nod M h m mx q l F → ∀ x, F x → ∃ n, M x = some n
 | 0, _, _, _, _, _, hN => hN.elim
 | h + 1, m, mx, q, l, F, ⟨n, ls, Fk, h1, h2, h3, h4, h5, h6, h7, h8, h9⟩ => by
   intro x hx
   rcases (h9 x).1 hx with rfl | hx
   · exact ⟨n, h1⟩
   · have key : ∀ {ks : List Nat} {ls : List (List It)} {F : Nat → Prop}, Kids (Nod M h 3 7) ks ls F → ∀ x, F x → ∃ n, M x = some n := by
      intro ks
      induction ks with
      | nil => intro ls F hK x hx; exact ((hK.nil).2 x hx).elim
      | cons k ks ih =>
        intro ls F hK x hx
        cases ls with
        | nil => exact hK.elim
        | cons l ls =>
          obtain ⟨Fk, Fr, g1, g2, g3, g4⟩ := hK
          rcases (g4 x).1 hx with q | q
          · exact Nod.there g1 x q
          · exact ih g2 x q
     exact key h6 x hx
theorem Kids.there {M : Nat → Option Nd} {h m mx : Nat} : ∀ {ks : List Nat} {ls : List (List It)} {F : Nat → Prop}, Kids (Nod M h m mx) ks ls F → ∀ x, F x → ∃ n, M x = some n
 | [], [], _, hK, x, hx => (hK x hx).elim
 | [], _ :: _, _, hK, _, _ => hK.elim
 | _ :: _, [], _, hK, _, _ => hK.elim
 | _ :: _, _ :: _, _, ⟨_, _, g1, g2, _, g4⟩, x, hx => by
   rcases (g4 x).1 hx with q | q
   · exact g1.there x q
   · exact Kids.there g2 x q
theorem Nod.lt {w : World} {M : Nat → Option Nd} (hs : Store w M) {h m mx q : Nat} {l : List It} {F : Nat → Prop} (hN : Nod M h m mx q l F) : ∀ x, F x → x < w.heap.size := fun x hx => by
 obtain ⟨n, hn⟩ := hN.there x hx
 exact hs.node_lt hn
theorem Kids.lt {w : World} {M : Nat → Option Nd} (hs : Store w M) {h m mx : Nat} {ks : List Nat} {ls : List (List It)} {F : Nat → Prop} (hK : Kids (Nod M h m mx) ks ls F) : ∀ x, F x → x < w.heap.size := fun x hx => by
 obtain ⟨n, hn⟩ := hK.there x hx
 exact hs.node_lt hn
structure Kept (M M' : Nat → Option Nd) (F F' : Nat → Prop) (w w' : World) : Prop where
 st : Store w' M'
 ext : Ext (Own M) (Own M') w w'
 rest : ∀ k, k < w.heap.size → ¬ F k → M' k = M k
 new : ∀ k, F' k → F k ∨ w.heap.size ≤ k
end Go.Proofs.YtalmanfjiblhcaaGreat
namespace Go.Proofs.YtalmanfjiblhcaaGreat
open Go.RowKit Go.Sort
structure Yes (its : List It) (k : ByteArray) (I1 : List It) (u : Vl) (I3 : List It) : Prop where
 eq : its = I1 ++ (k, u) :: I3
 lo : ∀ x ∈ I1, ltb x.1 k = true
 hi : ∀ x ∈ I3, ltb k x.1 = true
structure Not (its : List It) (k : ByteArray) (I1 I2 : List It) : Prop where
 eq : its = I1 ++ I2
 lo : ∀ x ∈ I1, ltb x.1 k = true
 hi : ∀ x ∈ I2, ltb k x.1 = true
theorem about {its : List It} (h : Srt its) (k : ByteArray) : (∃ I1 u I3, Yes its k I1 u I3) ∨ (∃ I1 I2, Not its k I1 I2) := by
 rcases h.about k with ⟨e, _⟩ | ⟨u, e, _⟩
 · exact .inr ⟨_, _, e, fun x hx => (mem_lo.1 hx).2, fun x hx => (mem_hi.1 hx).2⟩
 · exact .inl ⟨_, u, _, e, fun x hx => (mem_lo.1 hx).2, fun x hx => (mem_hi.1 hx).2⟩
theorem len_lo {k : ByteArray} {I1 I2 A B : List It} (h : I1 ++ I2 = A ++ B) (h1 : ∀ x ∈ I1, ltb x.1 k = true) (h2 : ∀ x ∈ I2, ltb x.1 k = false) (h3 : ∀ x ∈ A, ltb x.1 k = true) (h4 : ∀ x ∈ B, ltb x.1 k = false) : I1.length = A.length := by
 have e := congrArg (fun l => (l.filter fun x : It => ltb x.1 k).length) h
 simp only [List.filter_append, List.length_append] at e
 rw [List.filter_eq_self.2 h1, List.filter_eq_self.2 h3, List.filter_eq_nil_iff.2 (fun x hx => by rw [h2 x hx]; simp), List.filter_eq_nil_iff.2 (fun x hx => by rw [h4 x hx]; simp)] at e
 simpa using e
theorem found_low {its : List It} {k : ByteArray} {i : Nat} {b : Bool} (h : Found its k i b) : ∃ A B, its = A ++ B ∧ A.length = i ∧ (∀ x ∈ A, ltb x.1 k = true) ∧ (∀ x ∈ B, ltb x.1 k = false) ∧ (b = true ↔ ∃ u B', B = (k, u) :: B') := by
 obtain ⟨A, B, e, hl, h1, ⟨rfl, u, B', rfl, h3⟩ | ⟨rfl, h3⟩⟩ := h
 · refine ⟨A, _, e, hl, h1, fun x hx => ?_, by simp⟩
   rcases List.mem_cons.1 hx with rfl | hx
   · exact ltb_irrefl _
   · exact ltb_asymm (h3 x hx)
 · refine ⟨A, B, e, hl, h1, fun x hx => ltb_asymm (h3 x hx), ⟨fun q => (by cases q), ?_⟩⟩
   rintro ⟨u, B', rfl⟩
   have := h3 (k, u) (by simp)
   rw [ltb_irrefl] at this; cases this
theorem Yes.found {its : List It} {k : ByteArray} {u : Vl} {I1 I3 : List It} (y : Yes its k I1 u I3) {i : Nat} {b : Bool} (h : Found its k i b) : i = I1.length ∧ b = true := by
 obtain ⟨A, B, e, hl, h1, h2, h3⟩ := found_low h
 have hh : ∀ x ∈ (k, u) :: I3, ltb x.1 k = false := fun x hx => by
  rcases List.mem_cons.1 hx with rfl | hx
  · exact ltb_irrefl _
  · exact ltb_asymm (y.hi x hx)
 have e2 := y.eq.symm.trans e
 have el := len_lo e2 y.lo hh h1 h2
 obtain ⟨_, e4⟩ := List.append_inj e2 el
 exact ⟨by omega, h3.2 ⟨u, I3, e4.symm⟩⟩
theorem Not.found {its : List It} {k : ByteArray} {I1 I2 : List It} (y : Not its k I1 I2) {i : Nat} {b : Bool} (h : Found its k i b) : i = I1.length ∧ b = false := by
 obtain ⟨A, B, e, hl, h1, h2, h3⟩ := found_low h
 have e2 := y.eq.symm.trans e
 have el := len_lo e2 y.lo (fun x hx => ltb_asymm (y.hi x hx)) h1 h2
 obtain ⟨_, e4⟩ := List.append_inj e2 el
 refine ⟨by omega, ?_⟩
 cases b with
 | false => rfl
 | true =>
   obtain ⟨u, B', rfl⟩ := h3.1 rfl
   have := y.hi (k, u) (by rw [e4]; simp)
   rw [ltb_irrefl] at this; cases this
theorem find_yes {w : World} {M : Nat → Option Nd} {q : Nat} {n : Nd} (h : Store w M) (hq : M q = some n) (hs : Srt n.its) (hn : n.its.length ≤ 1000) {k : ByteArray} {u : Vl} {I1 I3 : List It} (y : Yes n.its k I1 u I3) :
 Calls Tryz.prog 97 #[.pointer (some ⟨q, 0, none⟩), .string k] w fun e w' => e = .returned (.tuple #[.int .i64 I1.length, .bool true]) ∧ Below w.heap.size w w' :=
 (find_ h hq hs hn k).mono fun e w' ⟨i, b, e1, hf, hb⟩ => by
   obtain ⟨rfl, rfl⟩ := y.found hf
   exact ⟨e1, hb⟩
theorem find_not {w : World} {M : Nat → Option Nd} {q : Nat} {n : Nd} (h : Store w M) (hq : M q = some n) (hs : Srt n.its) (hn : n.its.length ≤ 1000) {k : ByteArray} {I1 I2 : List It} (y : Not n.its k I1 I2) :
 Calls Tryz.prog 97 #[.pointer (some ⟨q, 0, none⟩), .string k] w fun e w' => e = .returned (.tuple #[.int .i64 I1.length, .bool false]) ∧ Below w.heap.size w w' :=
 (find_ h hq hs hn k).mono fun e w' ⟨i, b, e1, hf, hb⟩ => by
   obtain ⟨rfl, rfl⟩ := y.found hf
   exact ⟨e1, hb⟩
theorem Store.setRowI {w : World} {M : Nat → Option Nd} {q g c : Nat} {n : Nd} {cur : Array Value} {its' : List It} (h : Store w M) (hq : M q = some n) (hv : n.iv = .slice (some ⟨g, 0, none⟩) n.its.length c) (hl : its'.length = n.its.length) (hc : n.its.length ≤ c ∧ c ≤ maxLen ∧ cur.size = c * 2) (hx : cur.toList.take (n.its.length * 2) = cI its') {w' : World} (hw : w'.heap[g]? = some (.cells cur 200 (0, 0))) (hf : ∀ k, k ≠ g → w'.heap[k]? = w.heap[k]?) (hos : w'.os = w.os ∧ w'.tape = w.tape ∧ w'.output = w.output ∧ w'.heap.size = w.heap.size) :
 Store w' (upd M q { n with its := its' }) ∧ Ext (Own M) (Own (upd M q { n with its := its' })) w w' := by
 have hgo : n.iv.ownBlock = some g := by rw [hv]; rfl
 obtain ⟨cur0, hg0⟩ := row_block (h.its q n hq) hgo
 have hqg : q ≠ g := kind_ne (h.blk q n hq) hg0 (by decide)
 refine ⟨h.set hq (n' := { n with its := its' }) ((hf q hqg).trans (h.blk q n hq)) ?_ (row_keep (h.ks q n hq) fun k e => hf k fun e' => ?_) (fun k _ _ hki _ => hf k fun e => hki (e ▸ hgo)) (fun k e => .inl e) (fun k e => .inl e), ⟨hos.1, hos.2.1, hos.2.2.1, Nat.le_of_eq hos.2.2.2.symm, fun k _ hn => hf k fun e => hn ⟨q, n, hq, .inr (.inl (e ▸ hgo))⟩, own_upd hq (fun k e => .inl e) (fun k e => .inl e)⟩⟩
 · show w'.ownsRow 0 200 2 n.iv its'.length (cI its')
   rw [hl, hv]
   exact row_mk hw hc.1 hc.2.1 hc.2.2 hx
 · subst e'
   obtain ⟨cur1, hg1⟩ := row_block (h.ks q n hq) e
   exact kind_ne hg0 hg1 (by decide) rfl
theorem cI_setV : ∀ (I1 : List It) (k : ByteArray) (u v : Vl) (I3 : List It), (cI (I1 ++ (k, u) :: I3)).set (I1.length * 2 + 1) (.slice v.a v.n v.c) = cI (I1 ++ (k, v) :: I3)
 | [], k, u, v, I3 => rfl
 | x :: I1, k, u, v, I3 => by
   have := cI_setV I1 k u v I3
   simp only [List.cons_append, cI_cons, List.length_cons]
   rw [show (I1.length + 1) * 2 + 1 = I1.length * 2 + 1 + 1 + 1 by omega, List.set_cons_succ, List.set_cons_succ, this]
theorem Store.setV {w : World} {M : Nat → Option Nd} {q : Nat} {n : Nd} {I1 I3 : List It} {k : ByteArray} {u : Vl} (v : Vl) (h : Store w M) (hq : M q = some n) (hI : n.its = I1 ++ (k, u) :: I3) {g c : Nat} (hv : n.iv = .slice (some ⟨g, 0, none⟩) (I1.length + I3.length + 1) c) :
 Store (w.setCell ⟨g, I1.length * 2 + 1, none⟩ (.slice v.a v.n v.c)) (upd M q { n with its := I1 ++ (k, v) :: I3 }) ∧ Ext (Own M) (Own (upd M q { n with its := I1 ++ (k, v) :: I3 })) w (w.setCell ⟨g, I1.length * 2 + 1, none⟩ (.slice v.a v.n v.c)) := by
 have hl : n.its.length = I1.length + I3.length + 1 := by rw [hI]; simp; omega
 obtain ⟨g', c', cur, e, hg, h1, h2, h3, h4⟩ := row_open (h.its q n hq) (by omega)
 rw [hv, hl] at e
 simp only [Value.slice.injEq, Option.some.injEq, Addr.mk.injEq] at e
 obtain ⟨⟨rfl, _⟩, _, rfl⟩ := e
 refine h.setRowI hq (by rw [hv, hl]) (by rw [hl]; simp; omega) ⟨h1, h2, ?_⟩ ?_ (heap_set (.slice v.a v.n v.c) hg) (fun k hk => heap_far _ hk) ⟨rfl, rfl, rfl, size_set _ _ _⟩
 · simpa using h3
 · rw [Array.toList_setIfInBounds, List.take_set, h4, hI, cI_setV]
theorem weave_cut : ∀ (J1 : List It) (y : It) (J2 : List It) (A B : List (List It)), A.length = J1.length + 1 → weave (J1 ++ y :: J2) (A ++ B) = weave J1 A ++ y :: weave J2 B
 | [], y, J2, [a], B, _ => by simp [weave]
 | x :: J1, y, J2, a :: A, B, h => by
   simp only [List.cons_append, weave, weave_cut J1 y J2 A B (by simpa using h), List.append_assoc]
theorem eight {its : List It} (h : its.length = 8) : ∃ J1 y J2, its = J1 ++ y :: J2 ∧ J1.length = 4 ∧ J2.length = 3 := by
 refine ⟨its.take 4, its[4], its.drop 5, ?_, by rw [List.length_take]; omega, by rw [List.length_drop]; omega⟩
 rw [← List.drop_eq_getElem_cons, List.take_append_drop]
def SplitN (M : Nat → Option Nd) (h q len : Nat) (l : List It) (F : Nat → Prop) (w : World) (e : Ending) (w' : World) : Prop := e = .returned (.tuple #[]) ∧ ∃ M' F', Kept M M' F F' w w' ∧ Nod M' (h + 1) len len q l F'
theorem split_ {w : World} {M : Nat → Option Nd} {h q c : Nat} {n : Nd} {I1 I2 : List It} {K1 K2 : List Nat} {L1 L2 : List (List It)} {l : List It} {F1 Fc F2 : Nat → Prop} (hs : Store w M) (hq : M q = some n) (hI : n.its = I1 ++ I2) (hK : n.ks = K1 ++ c :: K2) (hIK : I1.length = K1.length) (hIK2 : I2.length = K2.length) (hn : n.its.length ≤ 100)
 (k1 : Kids (Nod M h 3 7) K1 L1 F1) (kc : Nod M h 8 8 c l Fc) (k2 : Kids (Nod M h 3 7) K2 L2 F2) (d1 : ∀ x, F1 x → ¬ Fc x) (d2 : ∀ x, F1 x → ¬ F2 x) (d3 : ∀ x, Fc x → ¬ F2 x) (q1 : ¬ F1 q) (qc : ¬ Fc q) (q2 : ¬ F2 q) :
 Calls Tryz.prog 116 #[.pointer (some ⟨q, 0, none⟩), .int .i64 I1.length] w (SplitN M h q (n.its.length + 1) (pre I1 L1 ++ (l ++ suf I2 L2)) (fun x => x = q ∨ F1 x ∨ Fc x ∨ F2 x) w) := by
 have l1 := k1.len
 have l2 := k2.len
 have lt1 := k1.lt hs
 have ltc := kc.lt hs
 have lt2 := k2.lt hs
 have ltq := hs.node_lt hq
 have hnl : n.its.length = I1.length + I2.length := by rw [hI]; simp
 cases h with
 | zero => exact kc.elim
 | succ h =>
   obtain ⟨nc, ls, Fk, hc, b1, b2, b3, b4, kk, rfl, hcn, hF⟩ := kc
   have hqc : q ≠ c := fun e => qc ((hF q).2 (.inl e))
   obtain ⟨J1, y, J2, hJ, hJ1, hJ2⟩ := eight (show nc.its.length = 8 by omega)
   have fin : ∀ (C1 C2 : List Nat) (la lb : List (List It)) (FA FB : Nat → Prop), ls = la ++ lb → Kids (Nod M h 3 7) C1 la FA → Kids (Nod M h 3 7) C2 lb FB → (∀ x, FA x → ¬ FB x) → (∀ x, Fk x ↔ FA x ∨ FB x) → weave nc.its ls = weave J1 la ++ y :: weave J2 lb → (h = 0 → C1 = [] ∧ C2 = []) → (h ≠ 0 → C1.length = 5 ∧ C2.length = 4) → ∀ e w', SplitTo w M q c (I1 ++ y :: I2) K1 K2 J1 C1 J2 C2 e w' → SplitN M (h + 1) q (n.its.length + 1) (pre I1 L1 ++ (weave nc.its ls ++ suf I2 L2)) (fun x => x = q ∨ F1 x ∨ Fc x ∨ F2 x) w e w' := by
    intro C1 C2 la lb FA FB hls kA kB dAB hFk hw hz hnz e w' hsp
    obtain ⟨he, M', r, hS⟩ := hsp
    obtain ⟨nq, hnq, eq1, eq2⟩ := hS.atq
    obtain ⟨ncx, hncx, ec1, ec2⟩ := hS.atc
    obtain ⟨nr, hnr, er1, er2⟩ := hS.atr
    have hrn := hS.new
    have Fcx : ∀ x, Fk x → Fc x := fun x hx => (hF x).2 (.inr hx)
    have sA : ∀ x, FA x → Fk x := fun x hx => (hFk x).2 (.inl hx)
    have sB : ∀ x, FB x → Fk x := fun x hx => (hFk x).2 (.inr hx)
    have keep : ∀ G : Nat → Prop, (∀ x, G x → x < w.heap.size) → (¬ G q) → (¬ G c) → ∀ x, G x → M' x = M x := fun G g1 g2 g3 x hx => hS.rest x (fun e => g2 (e ▸ hx)) (fun e => g3 (e ▸ hx)) (fun e => by have := g1 x hx; omega)
    have ltA : ∀ x, FA x → x < w.heap.size := kA.lt hs
    have ltB : ∀ x, FB x → x < w.heap.size := kB.lt hs
    have nodc : Nod M' (h + 1) 3 7 c (weave J1 la) (fun x => x = c ∨ FA x) := by
     refine ⟨ncx, la, FA, hncx, by rw [ec1]; omega, by rw [ec1]; omega, fun z => by rw [ec2]; exact (hz z).1, fun z => by rw [ec2, ec1, (hnz z).1]; omega, ?_, by rw [ec1], fun q => hcn (sA c q), fun x => Iff.rfl⟩
     rw [ec2]
     exact kA.frame (keep FA ltA (fun q => qc (Fcx _ (sA _ q))) (fun q => hcn (sA c q)))
    have nodr : Nod M' (h + 1) 3 7 r (weave J2 lb) (fun x => x = r ∨ FB x) := by
     refine ⟨nr, lb, FB, hnr, by rw [er1]; omega, by rw [er1]; omega, fun z => by rw [er2]; exact (hz z).2, fun z => by rw [er2, er1, (hnz z).2]; omega, ?_, by rw [er1], fun q => by have := ltB r q; omega, fun x => Iff.rfl⟩
     rw [er2]
     exact kB.frame (keep FB ltB (fun q => qc (Fcx _ (sB _ q))) (fun q => hcn (sB c q)))
    have cF : Fc c := (hF c).2 (.inl rfl)
    have kk1 := k1.frame (keep F1 lt1 q1 (fun q => d1 c q cF))
    have kk2 := k2.frame (keep F2 lt2 q2 (fun q => d3 c cF q))
    have kids := kids_two kk1 nodc nodr kk2 (fun x hx q => q.elim (fun e => d1 x hx (e ▸ cF)) (fun q => d1 x hx (Fcx x (sA x q)))) (fun x hx q => q.elim (fun e => by have := lt1 x hx; omega) (fun q => d1 x hx (Fcx x (sB x q)))) d2 (fun x hx q => hx.elim (fun e => d3 x (e ▸ cF) q) (fun g => d3 x (Fcx x (sA x g)) q)) (fun x hx q => hx.elim (fun e => by have := lt2 x q; omega) (fun g => d3 x (Fcx x (sB x g)) q)) (fun x hx q => hx.elim (fun e => q.elim (fun e' => by have := ltc c cF; omega) (fun g => hcn (e ▸ sB x g))) (fun g => q.elim (fun e' => by have := ltA x g; omega) (dAB x g)))
    refine ⟨he, M', fun x => x = q ∨ (F1 x ∨ (x = c ∨ FA x) ∨ (x = r ∨ FB x) ∨ F2 x), ⟨hS.st, hS.ext, fun k hk hno => hS.rest k (fun e => hno (.inl e)) (fun e => hno (.inr (.inr (.inl (e ▸ cF))))) (by omega), fun k hk => ?_⟩, nq, L1 ++ weave J1 la :: weave J2 lb :: L2, _, hnq, ?_, ?_, fun z => by omega, fun _ => ?_, ?_, ?_, ?_, fun x => Iff.rfl⟩
    · rcases hk with rfl | g | (rfl | g) | (rfl | g) | g
      · exact .inl (.inl rfl)
      · exact .inl (.inr (.inl g))
      · exact .inl (.inr (.inr (.inl cF)))
      · exact .inl (.inr (.inr (.inl (Fcx _ (sA _ g)))))
      · exact .inr hrn
      · exact .inl (.inr (.inr (.inl (Fcx _ (sB _ g)))))
      · exact .inl (.inr (.inr (.inr g)))
    · rw [eq1, hnl]; simp; omega
    · rw [eq1, hnl]; simp; omega
    · rw [eq1, eq2]; simp; omega
    · rw [eq2]; exact kids
    · rw [eq1, hw, weave_at I1 (y :: I2) L1 (weave J1 la) (weave J2 lb :: L2) (by omega) (by simp; omega), suf_cons]
      simp
    · rintro (g | (g | g) | (g | g) | g)
      · exact q1 g
      · exact hqc g
      · exact qc (Fcx _ (sA _ g))
      · omega
      · exact qc (Fcx _ (sB _ g))
      · exact q2 g
   by_cases hz : h = 0
   · have hks := b3 hz
     rw [hks] at kk
     obtain ⟨rfl, hno⟩ := kk.nil
     refine (split_leaf hs hq hc hqc hI hK hIK (by omega) (by rw [hK]; simp; omega) hJ hJ1 hJ2 hks).mono fun e w' hsp => fin [] [] [] [] (fun _ => False) (fun _ => False) rfl kids_nil kids_nil (fun _ q _ => q) (fun x => ⟨fun q => (hno x q).elim, fun q => q.elim False.elim False.elim⟩) (by rw [weave_nil, weave_nil, weave_nil, hJ]) (fun _ => ⟨rfl, rfl⟩) (fun z => (z hz).elim) e w' hsp
   · have hks := b4 hz
     have e1 : nc.ks = nc.ks.take 5 ++ nc.ks.drop 5 := (List.take_append_drop 5 _).symm
     have t1 : (nc.ks.take 5).length = 5 := by rw [List.length_take]; omega
     have t2 : (nc.ks.drop 5).length = 4 := by rw [List.length_drop]; omega
     rw [e1] at kk
     obtain ⟨la, lb, FA, FB, rfl, kA, kB, dAB, hFk⟩ := kk.split
     have la5 := kA.len
     refine (split_inner hs hq hc hqc hI hK hIK (by omega) (by rw [hK]; simp; omega) hJ hJ1 hJ2 e1 t1 t2).mono fun e w' hsp => fin _ _ la lb FA FB rfl kA kB dAB hFk (by rw [hJ]; exact weave_cut J1 y J2 la lb (by omega)) (fun z => (hz z).elim) (fun _ => ⟨t1, t2⟩) e w' hsp
end Go.Proofs.YtalmanfjiblhcaaGreat
