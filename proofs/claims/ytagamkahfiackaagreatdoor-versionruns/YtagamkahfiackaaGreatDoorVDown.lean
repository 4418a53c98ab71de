/- Going down from node to node. -/
import Derived.Test.YtagamkahfiackaaGreatDoorVDesc
import Derived.Test.YtagamkahfiackaaGreatDoorVTree
namespace Go.Proofs.YtagamkahfiackaaGreatDoor
open Go.RowKit Go.Sort

/-- Where one stands: nowhere, or at a node of a height below kx. -/
def At (M : Nat → Option Nd) (kx : Nat) (v : Value) (l : List It) : Prop := (v = .pointer none ∧ l = []) ∨ ∃ h q F, h < kx ∧ v = .pointer (some ⟨q, 0, none⟩) ∧ Nod M (h + 1) 1 7 q l F ∧ Srt l
/-- A node cut at a place: what stands below the child there. -/
structure Cut (M : Nat → Option Nd) (h q : Nat) (n : Nd) (l : List It) (A B : List It) (v : Value) (lk : List It) : Prop where
  next : At M h v lk
  child : ∀ V, Store V M → Calls Tryz.prog 41 #[.pointer (some ⟨q, 0, none⟩), .int .i64 A.length] V fun e w' => e = .returned v ∧ w' = V
  parts : (l = A ++ B ∧ lk = []) ∨ ∃ L1 L2, A.length = L1.length ∧ B.length = L2.length ∧ l = pre A L1 ++ (lk ++ suf B L2)
theorem cut_ {M : Nat → Option Nd} {h m q : Nat} {l : List It} {F : Nat → Prop} (hN : Nod M (h + 1) m 7 q l F) (hs : Srt l) : ∃ n, M q = some n ∧ m ≤ n.its.length ∧ n.its.length ≤ 7 ∧ Srt n.its ∧ ∀ A B, n.its = A ++ B → ∃ v lk, Cut M h q n l A B v lk := by
  obtain ⟨n, ls, Fk, h1, h2, h3, h4, h5, h6, rfl, h8, h9⟩ := hN
  refine ⟨n, h1, h2, h3, hs.items, fun A B hAB => ?_⟩
  cases h with
  | zero =>
    have hks := h4 rfl
    rw [hks] at h6
    obtain ⟨rfl, hno⟩ := h6.nil
    rw [weave_nil] at hs ⊢
    exact ⟨.pointer none, [], .inl ⟨rfl, rfl⟩, fun V hV => child_none hV h1 hks _, .inl ⟨hAB, rfl⟩⟩
  | succ h =>
    have hks := h5 (by omega)
    have hll := h6.len
    have hl : n.its.length = A.length + B.length := by rw [hAB]; simp
    obtain ⟨K1, p, K2, hK, hK1, hK2⟩ : ∃ K1 p K2, n.ks = K1 ++ p :: K2 ∧ K1.length = A.length ∧ K2.length = B.length := by
      refine ⟨n.ks.take A.length, n.ks[A.length], n.ks.drop (A.length + 1), ?_, by rw [List.length_take]; omega, by rw [List.length_drop]; omega⟩
      rw [← List.drop_eq_getElem_cons, List.take_append_drop]
    rw [hK] at h6
    obtain ⟨L1, lp, L2, F1, Fp, F2, rfl, k1, kp, k2, _⟩ := h6.at
    have l1 := k1.len
    have l2 := k2.len
    have hw : weave n.its (L1 ++ lp :: L2) = pre A L1 ++ (lp ++ suf B L2) := by rw [hAB]; exact weave_at A B L1 lp L2 (by omega) (by omega)
    rw [hw] at hs ⊢
    have hsp := (List.pairwise_append.1 (List.pairwise_append.1 hs).2.1).1
    refine ⟨.pointer (some ⟨p, 0, none⟩), lp, .inr ⟨h, p, Fp, by omega, rfl, kp.wide (by omega) (Nat.le_refl _), hsp⟩, fun V hV => ?_, .inr ⟨L1, L2, by omega, by omega, rfl⟩⟩
    have := child_at hV h1 hK
    rw [hK1] at this
    exact this
theorem Cut.first {P : It → Bool} (hP : Up P) {M : Nat → Option Nd} {h q : Nat} {n : Nd} {l A B lk : List It} {v : Value} (c : Cut M h q n l A B v lk) (hs : Srt l) (hA : ∀ x ∈ A, P x = false) (hB : ∀ x ∈ B, P x = true) : l.find? P = (lk.find? P).or B.head? := by
  rcases c.parts with ⟨rfl, rfl⟩ | ⟨L1, L2, e1, e2, rfl⟩
  · exact from_leaf hA hB
  · exact from_inner hP hs hA hB e2
theorem Cut.last {P : It → Bool} (hP : Dn P) {M : Nat → Option Nd} {h q : Nat} {n : Nd} {l A B lk : List It} {v : Value} (c : Cut M h q n l A B v lk) (hs : Srt l) (hA : ∀ x ∈ A, P x = true) (hB : ∀ x ∈ B, P x = false) : lastL P l = (lastL P lk).or A.getLast? := by
  rcases c.parts with ⟨rfl, rfl⟩ | ⟨L1, L2, e1, e2, rfl⟩
  · exact to_leaf hA hB
  · exact to_inner hP hs hA hB e1
/-- The item at a place of a node, and what stands about it. -/
theorem Cut.mid {M : Nat → Option Nd} {h q : Nat} {n : Nd} {l A B lk : List It} {v : Value} {x : It} (c : Cut M h q n l A (x :: B) v lk) : ∃ P S, l = P ++ x :: S := by
  rcases c.parts with ⟨rfl, _⟩ | ⟨L1, L2, e1, e2, rfl⟩
  · exact ⟨A, B, rfl⟩
  · cases L2 with
    | nil => simp at e2
    | cons m L2 => exact ⟨pre A L1 ++ lk, m ++ suf B L2, by simp [suf]⟩
/-- A tree's root. -/
theorem TreeAt.top {w : World} {M : Nat → Option Nd} {p : Nat} {l : List It} {F : Nat → Prop} (h : TreeAt w M p l F) : ∃ kx v, At M kx v l ∧ Calls Tryz.prog 39 #[.pointer (some ⟨p, 0, none⟩)] w fun e w' => e = .returned v ∧ w' = w := by
  rcases h.root with ⟨rfl, _, hp⟩ | ⟨hh, q, _, hN, hp⟩
  · exact ⟨0, _, .inl ⟨rfl, rfl⟩, top_ rfl hp⟩
  · exact ⟨hh + 1, _, .inr ⟨hh, q, F, by omega, rfl, hN, h.srt⟩, top_ rfl hp⟩
theorem At.up {M : Nat → Option Nd} {k k' : Nat} {v : Value} {l : List It} (h : At M k v l) (hk : k ≤ k') : At M k' v l :=
  h.imp id fun ⟨a, b, c, d, e⟩ => ⟨a, b, c, by omega, e⟩
end Go.Proofs.YtagamkahfiackaaGreatDoor
