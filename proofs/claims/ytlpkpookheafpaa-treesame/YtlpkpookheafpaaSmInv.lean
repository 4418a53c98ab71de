/- What holds of the two trees while TreeSame goes on. -/
import Derived.Test.YtlpkpookheafpaaSmMem
namespace Go.Proofs.Ytlpkpookheafpaa
open Go.RowKit Go.Sort

abbrev kv (x : ByteArray) : ByteArray := x ++ ⟨#[118]⟩
structure P1 (ks : List ByteArray) (i : Nat) (la : List It) : Prop where
  yes : ∀ k ∈ ks.take i, get k la = some (kv k)
  no : ∀ k, k ∉ ks.take i → get k la = none
  len : la.length ≤ i
theorem P1.step {ks : List ByteArray} {i : Nat} {la : List It} (h : P1 ks i la) (hs : Srt la) {x : ByteArray} (hx : ks[i]? = some x) : P1 ks (i + 1) (ins x (kv x) la) := by
  have ht : ks.take (i + 1) = ks.take i ++ [x] := by rw [List.take_add_one, hx]; rfl
  refine ⟨fun k hk => ?_, fun k hk => ?_, Nat.le_trans (ins_le hs _ _) (by have := h.len; omega)⟩
  · rw [get_ins]
    by_cases e : k = x
    · rw [if_pos e, e]
    · rw [if_neg e]
      rw [ht] at hk
      rcases List.mem_append.1 hk with g | g
      · exact h.yes k g
      · exact (e (List.mem_singleton.1 g)).elim
  · rw [ht] at hk
    have h1 : k ≠ x := fun e => hk (List.mem_append.2 (.inr (List.mem_singleton.2 e)))
    rw [get_ins, if_neg h1]
    exact h.no k fun g => hk (List.mem_append.2 (.inl g))
structure P2 (os : List ByteArray) (i : Nat) (lb : List It) : Prop where
  at_ : ∀ k, k ∉ os → get k lb = none
  len : lb.length ≤ i
theorem P2.step {os : List ByteArray} {i : Nat} {lb : List It} (h : P2 os i lb) (hs : Srt lb) {x : ByteArray} (hx : os[i]? = some x) (v : ByteArray) : P2 os (i + 1) (ins x v lb) := by
  refine ⟨fun k hk => ?_, Nat.le_trans (ins_le hs _ _) (by have := h.len; omega)⟩
  rw [get_ins, if_neg (fun e : k = x => hk (e ▸ List.mem_of_getElem? hx)), h.at_ k hk]
structure P3 (ks os : List ByteArray) (i : Nat) (lb : List It) : Prop where
  yes : ∀ k ∈ ks.drop i, get k lb = some (kv k)
  no : ∀ k, k ∉ os → k ∉ ks → get k lb = none
  len : lb.length + i ≤ ks.length + os.length
theorem P2.next {ks os : List ByteArray} {lb : List It} (h : P2 os os.length lb) : P3 ks os ks.length lb :=
  ⟨fun k hk => (by rw [List.drop_length] at hk; cases hk), fun k h1 _ => h.at_ k h1, by have := h.len; omega⟩
theorem P3.step {ks os : List ByteArray} {i : Nat} {lb : List It} (h : P3 ks os (i + 1) lb) (hs : Srt lb) {x : ByteArray} (hx : ks[i]? = some x) : P3 ks os i (ins x (kv x) lb) := by
  have hm := List.mem_of_getElem? hx
  refine ⟨fun k hk => ?_, fun k h1 h2 => ?_, ?_⟩
  · rw [get_ins]
    by_cases e : k = x
    · rw [if_pos e, e]
    · rw [if_neg e]
      refine h.yes k ?_
      obtain ⟨h1, h2⟩ := List.getElem?_eq_some_iff.1 hx
      rw [List.drop_eq_getElem_cons h1, h2] at hk
      rcases List.mem_cons.1 hk with g | g
      · exact (e g).elim
      · exact g
  · rw [get_ins, if_neg (fun e : k = x => h2 (e ▸ hm)), h.no k h1 h2]
  · have := ins_le hs x (kv x)
    have := h.len
    omega
structure P4 (ks os : List ByteArray) (i : Nat) (lb : List It) : Prop where
  yes : ∀ k ∈ ks, get k lb = some (kv k)
  no : ∀ k, k ∉ ks → k ∉ os.drop i → get k lb = none
  len : lb.length ≤ ks.length + os.length
theorem P3.next {ks os : List ByteArray} {lb : List It} (h : P3 ks os 0 lb) : P4 ks os 0 lb := ⟨h.yes, fun k h1 h2 => h.no k h2 h1, h.len⟩
theorem P1.is {ks : List ByteArray} {la : List It} (h : P1 ks ks.length la) (k : ByteArray) : (k ∈ ks ∧ get k la = some (kv k)) ∨ (k ∉ ks ∧ get k la = none) := by
  by_cases hk : k ∈ ks
  · exact .inl ⟨hk, h.yes k (by rwa [List.take_length])⟩
  · exact .inr ⟨hk, h.no k (by rwa [List.take_length])⟩
theorem drop_not {os : List ByteArray} {i : Nat} {x k : ByteArray} (hx : os[i]? = some x) (e : k ≠ x) (h : k ∉ os.drop (i + 1)) : k ∉ os.drop i := by
  obtain ⟨h1, h2⟩ := List.getElem?_eq_some_iff.1 hx
  rw [List.drop_eq_getElem_cons h1, h2]
  intro g
  rcases List.mem_cons.1 g with g | g
  · exact e g
  · exact h g
theorem P4.stay {ks os : List ByteArray} {i : Nat} {lb : List It} (h : P4 ks os i lb) {x : ByteArray} (hx : os[i]? = some x) (hk : x ∈ ks) : P4 ks os (i + 1) lb :=
  ⟨h.yes, fun _ h1 h2 => h.no _ h1 (drop_not hx (fun e => h1 (e ▸ hk)) h2), h.len⟩
theorem P4.drop {ks os : List ByteArray} {i : Nat} {lb : List It} (h : P4 ks os i lb) (hs : Srt lb) {x : ByteArray} (hx : os[i]? = some x) (hk : x ∉ ks) : P4 ks os (i + 1) (del x lb) := by
  refine ⟨fun k hm => ?_, fun k h1 h2 => ?_, Nat.le_trans (del_le hs x) h.len⟩
  · rw [get_del, if_neg (fun e : k = x => hk (e ▸ hm)), h.yes k hm]
  · rw [get_del]
    by_cases e : k = x
    · rw [if_pos e]
    · rw [if_neg e]
      exact h.no k h1 (drop_not hx e h2)
theorem P4.same {ks os : List ByteArray} {la lb : List It} (h : P4 ks os os.length lb) (h1 : P1 ks ks.length la) (ha : Srt la) (hb : Srt lb) : lb = la :=
  srt_ext hb ha fun k => by
    rcases h1.is k with ⟨hk, e⟩ | ⟨hk, e⟩
    · rw [e, h.yes k hk]
    · rw [e, h.no k hk (by rw [List.drop_length]; simp)]
theorem P1.val {ks : List ByteArray} {la : List It} (h : P1 ks ks.length la) (hs : Srt la) {x : It} (hx : x ∈ la) : x.2 = kv x.1 := by
  have h1 := get_of_mem hs hx
  rcases h.is x.1 with ⟨_, e⟩ | ⟨_, e⟩
  · rw [e] at h1
    injection h1 with h1
    exact h1.symm
  · rw [e] at h1; cases h1
end Go.Proofs.Ytlpkpookheafpaa
