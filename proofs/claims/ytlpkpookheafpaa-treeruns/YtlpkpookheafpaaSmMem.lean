/- Two trees that a law works on. -/
import Derived.Test.YtlpkpookheafpaaVTDrop
import Derived.Test.YtlpkpookheafpaaVGet
import Derived.Test.YtlpkpookheafpaaNearWalk
import Derived.Test.YtlpkpookheafpaaSmMath
namespace Go.Proofs.Ytlpkpookheafpaa
open Go.RowKit Go.Sort

structure Both (W w : World) (p q : Nat) (la lb : List It) : Prop where
  ex : ∃ M F G, Works W w M ∧ TreeAt w M p la F ∧ TreeAt w M q lb G ∧ (∀ x, F x → ¬ G x)
  pq : p ≠ q
  lp : W.heap.size ≤ p
  lq : W.heap.size ≤ q
theorem Both.on {W w w' : World} {p q : Nat} {la lb : List It} (h : Both W w p q la lb) (hb : Below w.heap.size w w') : Both W w' p q la lb := by
  obtain ⟨M, F, G, h1, h2, h3, h4⟩ := h.ex
  exact ⟨⟨M, F, G, h1.on hb, h2.on hb, h3.on hb, h4⟩, h.pq, h.lp, h.lq⟩
theorem Both.below {W w : World} {p q : Nat} {la lb : List It} (h : Both W w p q la lb) : Below W.heap.size W w := by
  obtain ⟨M, F, G, h1, h2⟩ := h.ex
  exact h1.below
theorem Both.srt {W w : World} {p q : Nat} {la lb : List It} (h : Both W w p q la lb) : Srt la ∧ Srt lb := by
  obtain ⟨M, F, G, h1, h2, h3, _⟩ := h.ex
  exact ⟨h2.srt, h3.srt⟩
theorem both_new {W w : World} {p : Nat} {la : List It} (h : On W w p la) : Calls Try.prog 7 #[] w fun e w1 => ∃ q, e = .returned (.pointer (some ⟨q, 0, none⟩)) ∧ Hid (Both W w1 p q la []) := (new_ w).mono fun e w1 ⟨e1, e2⟩ => by
  subst e2
  obtain ⟨M, F, h1, h2⟩ := h.ex
  exact ⟨_, e1, ⟨M, F, _, h1.on (below_alloc w _), h2.on (below_alloc w _), (new_tree h1.st).2, fun _ _ g => g⟩, fun e => by have := h2.lt; omega, h.lo, h1.below.size⟩
theorem both_putA {W w : World} {p q : Nat} {la lb : List It} (h : Both W w p q la lb) (hl : la.length ≤ 1000000) (k v : ByteArray) : Calls Try.prog 8 #[.pointer (some ⟨p, 0, none⟩), .string k, .string v] w fun e w' => e = .returned (.tuple #[.string ((get k la).getD ⟨#[]⟩), .bool (get k la).isSome]) ∧ Both W w' p q (ins k v la) lb := by
  obtain ⟨M, F, G, h1, h2, h3, h4⟩ := h.ex
  refine (tput_ h1.st h2 hl k v).mono fun e w' ⟨e1, M', F', hk, ht⟩ => ?_
  obtain ⟨t1, t2⟩ := h3.other h1.st hk (Ne.symm h.pq) (fun x g f => h4 x f g)
  exact ⟨e1, ⟨M', F', G, h1.kept h.lp hk, ht, t1, fun x f g => t2 x g f⟩, h.pq, h.lp, h.lq⟩
theorem both_putB {W w : World} {p q : Nat} {la lb : List It} (h : Both W w p q la lb) (hl : lb.length ≤ 1000000) (k v : ByteArray) : Calls Try.prog 8 #[.pointer (some ⟨q, 0, none⟩), .string k, .string v] w fun e w' => e = .returned (.tuple #[.string ((get k lb).getD ⟨#[]⟩), .bool (get k lb).isSome]) ∧ Both W w' p q la (ins k v lb) := by
  obtain ⟨M, F, G, h1, h2, h3, h4⟩ := h.ex
  refine (tput_ h1.st h3 hl k v).mono fun e w' ⟨e1, M', G', hk, ht⟩ => ?_
  obtain ⟨t1, t2⟩ := h2.other h1.st hk h.pq h4
  exact ⟨e1, ⟨M', F, G', h1.kept h.lq hk, t1, ht, t2⟩, h.pq, h.lp, h.lq⟩
theorem both_dropB {W w : World} {p q : Nat} {la lb : List It} (h : Both W w p q la lb) (hl : lb.length ≤ 1000000) (k : ByteArray) : Calls Try.prog 10 #[.pointer (some ⟨q, 0, none⟩), .string k] w fun e w' => e = .returned (.tuple #[.string ((get k lb).getD ⟨#[]⟩), .bool (get k lb).isSome]) ∧ Both W w' p q la (del k lb) := by
  obtain ⟨M, F, G, h1, h2, h3, h4⟩ := h.ex
  refine (tdrop_ h1.st h3 hl k).mono fun e w' ⟨e1, M', G', hk, ht⟩ => ?_
  obtain ⟨t1, t2⟩ := h2.other h1.st hk h.pq h4
  exact ⟨e1, ⟨M', F, G', h1.kept h.lq hk, t1, ht, t2⟩, h.pq, h.lp, h.lq⟩
theorem both_getA {W w : World} {p q : Nat} {la lb : List It} (h : Both W w p q la lb) (k : ByteArray) : Calls Try.prog 22 #[.pointer (some ⟨p, 0, none⟩), .string k] w fun e w' => e = .returned (.tuple #[.string ((get k la).getD ⟨#[]⟩), .bool (get k la).isSome]) ∧ Below w.heap.size w w' := by
  obtain ⟨M, F, G, h1, h2, h3, h4⟩ := h.ex
  exact tget_ h1.st h2 k
theorem both_getB {W w : World} {p q : Nat} {la lb : List It} (h : Both W w p q la lb) (k : ByteArray) : Calls Try.prog 22 #[.pointer (some ⟨q, 0, none⟩), .string k] w fun e w' => e = .returned (.tuple #[.string ((get k lb).getD ⟨#[]⟩), .bool (get k lb).isSome]) ∧ Below w.heap.size w w' := by
  obtain ⟨M, F, G, h1, h2, h3, h4⟩ := h.ex
  exact tget_ h1.st h3 k
theorem both_keysA {W w : World} {p q : Nat} {la lb : List It} (h : Both W w p q la lb) (hl : la.length ≤ 100000) : Calls Try.prog 16 #[.pointer (some ⟨p, 0, none⟩)] w fun e w2 => ∃ a2 c2, e = .returned (.slice a2 la.length c2) ∧ Hid (Below w.heap.size w w2 ∧ Tx w2 a2 (la.map (·.1))) := by
  obtain ⟨M, F, G, h1, h2, h3, h4⟩ := h.ex
  refine (tkeys_ h1.st h2 hl).mono fun e w2 ⟨a2, n2, c2, e1, hr, hb, _⟩ => ?_
  obtain ⟨e2, e3, _⟩ := hr.tx
  simp only [List.length_map] at e2
  subst e2
  exact ⟨a2, c2, e1, hb, e3⟩
theorem both_keysB {W w : World} {p q : Nat} {la lb : List It} (h : Both W w p q la lb) (hl : lb.length ≤ 100000) : Calls Try.prog 16 #[.pointer (some ⟨q, 0, none⟩)] w fun e w2 => ∃ a2 c2, e = .returned (.slice a2 lb.length c2) ∧ Hid (Below w.heap.size w w2 ∧ Tx w2 a2 (lb.map (·.1))) := by
  obtain ⟨M, F, G, h1, h2, h3, h4⟩ := h.ex
  refine (tkeys_ h1.st h3 hl).mono fun e w2 ⟨a2, n2, c2, e1, hr, hb, _⟩ => ?_
  obtain ⟨e2, e3, _⟩ := hr.tx
  simp only [List.length_map] at e2
  subst e2
  exact ⟨a2, c2, e1, hb, e3⟩
theorem both_len {W w : World} {p q : Nat} {la lb : List It} (h : Both W w p q la lb) : (Calls Try.prog 12 #[.pointer (some ⟨p, 0, none⟩)] w fun e w' => e = .returned (.int .i64 la.length) ∧ w' = w) ∧ (Calls Try.prog 12 #[.pointer (some ⟨q, 0, none⟩)] w fun e w' => e = .returned (.int .i64 lb.length) ∧ w' = w) := by
  obtain ⟨M, F, G, h1, h2, h3, h4⟩ := h.ex
  exact ⟨len_ h2, len_ h3⟩
theorem del_le {l : List It} (h : Srt l) (k : ByteArray) : (del k l).length ≤ l.length := by
  have := del_len h k
  split at this <;> omega
end Go.Proofs.Ytlpkpookheafpaa
