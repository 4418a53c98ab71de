/- Plain facts on what stands in a line: its order, lists in order, a row that holds what a list holds. No program is in it. -/
import Derived.Test.YtnkdhipeklphaaaDoorHMath
import Derived.Lib.Small
import Derived.Lib.Strings
import GoSem.Op.String
namespace Go.Proofs.YtnkdhipeklphaaaDoor
open Go.Lib

/-! ### An order told by -1, 0, 1 -/
structure Ordered {α : Type} (f : α → α → Int) : Prop where
  refl : ∀ a, f a a = 0
  anti : ∀ a b, f a b = -f b a
  low : ∀ a b, -1 ≤ f a b
  high : ∀ a b, f a b ≤ 1
  le_le : ∀ a b c, f a b ≤ 0 → f b c ≤ 0 → f a c ≤ 0
  le_lt : ∀ a b c, f a b ≤ 0 → f b c < 0 → f a c < 0
theorem ordered_int : Ordered compareInt := by
  constructor <;> (intros; simp only [compareInt] at *; (repeat' split at *) <;> omega)
def cmpT (s t : List UInt8) : Int := if Op.bytesLess s t = true then -1 else if (!(Op.bytesLess s t || s == t)) = true then 1 else 0
theorem less_irrefl : ∀ s, Op.bytesLess s s = false
  | [] => rfl
  | a :: s => by simp [Op.bytesLess, less_irrefl s]
theorem less_cons {a b : UInt8} {x y : List UInt8} : Op.bytesLess (a :: x) (b :: y) = true ↔ a.toNat < b.toNat ∨ (a = b ∧ Op.bytesLess x y = true) := by
  simp [Op.bytesLess, UInt8.lt_iff_toNat_lt]
theorem less_trans : ∀ s t u, Op.bytesLess s t = true → Op.bytesLess t u = true → Op.bytesLess s u = true
  | [], [], _, h, _ => by simp [Op.bytesLess] at h
  | _ :: _, [], _, h, _ => by simp [Op.bytesLess] at h
  | [], _ :: _, [], _, h => by simp [Op.bytesLess] at h
  | _ :: _, _ :: _, [], _, h => by simp [Op.bytesLess] at h
  | [], _ :: _, _ :: _, _, _ => by simp [Op.bytesLess]
  | a :: s, b :: t, c :: u, h1, h2 => by
    rw [less_cons] at *
    rcases h1 with h1 | ⟨rfl, h1⟩ <;> rcases h2 with h2 | ⟨rfl, h2⟩
    · left; omega
    · left; omega
    · left; omega
    · right; exact ⟨rfl, less_trans s t u h1 h2⟩
theorem less_total : ∀ s t, Op.bytesLess s t = false → Op.bytesLess t s = false → s = t
  | [], [], _, _ => rfl
  | [], _ :: _, h, _ => by simp [Op.bytesLess] at h
  | _ :: _, [], _, h => by simp [Op.bytesLess] at h
  | a :: s, b :: t, h1, h2 => by
    have n1 : ¬ Op.bytesLess (a :: s) (b :: t) = true := by rw [h1]; simp
    have n2 : ¬ Op.bytesLess (b :: t) (a :: s) = true := by rw [h2]; simp
    rw [less_cons] at n1 n2
    have e : a = b := UInt8.toNat_inj.1 (by omega)
    subst e
    rw [less_total s t (by by_cases h : Op.bytesLess s t = true; exact absurd (Or.inr ⟨rfl, h⟩) n1; simpa using h) (by by_cases h : Op.bytesLess t s = true; exact absurd (Or.inr ⟨rfl, h⟩) n2; simpa using h)]
theorem less_asymm {s t : List UInt8} (h : Op.bytesLess s t = true) : Op.bytesLess t s = false := by
  by_cases h2 : Op.bytesLess t s = true
  · have := less_trans _ _ _ h h2; rw [less_irrefl] at this; cases this
  · simpa using h2
/-- The three cases of two texts. -/
theorem cmpT_cases (s t : List UInt8) : (cmpT s t = -1 ∧ Op.bytesLess s t = true) ∨ (cmpT s t = 0 ∧ s = t) ∨ (cmpT s t = 1 ∧ Op.bytesLess t s = true) := by
  by_cases h : Op.bytesLess s t = true
  · exact .inl ⟨by rw [cmpT, if_pos h], h⟩
  · by_cases e : s = t
    · subst e; exact .inr (.inl ⟨by rw [cmpT, if_neg h]; simp, rfl⟩)
    · refine .inr (.inr ⟨?_, ?_⟩)
      · rw [cmpT, if_neg h, if_pos]; simp only [Bool.not_eq_true] at h; simp [h, e]
      · by_cases h2 : Op.bytesLess t s = true
        · exact h2
        · exact absurd (less_total _ _ (by simpa using h) (by simpa using h2)) e
theorem ordered_text : Ordered cmpT where
  refl a := by rcases cmpT_cases a a with ⟨_, h⟩ | ⟨h, _⟩ | ⟨_, h⟩ <;> first | exact h | (rw [less_irrefl] at h; cases h)
  anti a b := by
    rcases cmpT_cases a b with ⟨e1, h1⟩ | ⟨e1, h1⟩ | ⟨e1, h1⟩ <;> rcases cmpT_cases b a with ⟨e2, h2⟩ | ⟨e2, h2⟩ | ⟨e2, h2⟩ <;> first | omega | skip
    · rw [less_asymm h1] at h2; cases h2
    · subst h2; rw [less_irrefl] at h1; cases h1
    · subst h1; rw [less_irrefl] at h2; cases h2
    · subst h1; rw [less_irrefl] at h2; cases h2
    · subst h2; rw [less_irrefl] at h1; cases h1
    · rw [less_asymm h1] at h2; cases h2
  low a b := by rcases cmpT_cases a b with ⟨e, _⟩ | ⟨e, _⟩ | ⟨e, _⟩ <;> omega
  high a b := by rcases cmpT_cases a b with ⟨e, _⟩ | ⟨e, _⟩ | ⟨e, _⟩ <;> omega
  le_le a b c h1 h2 := by
    rcases cmpT_cases a b with ⟨e1, k1⟩ | ⟨e1, rfl⟩ | ⟨e1, _⟩
    · rcases cmpT_cases b c with ⟨e2, k2⟩ | ⟨e2, rfl⟩ | ⟨e2, _⟩
      · rw [cmpT, if_pos (less_trans _ _ _ k1 k2)]; omega
      · omega
      · omega
    · exact h2
    · omega
  le_lt a b c h1 h2 := by
    rcases cmpT_cases b c with ⟨e2, k2⟩ | ⟨e2, _⟩ | ⟨e2, _⟩
    · rcases cmpT_cases a b with ⟨e1, k1⟩ | ⟨e1, rfl⟩ | ⟨e1, _⟩
      · rw [cmpT, if_pos (less_trans _ _ _ k1 k2)]; omega
      · exact h2
      · omega
    · omega
    · omega
theorem Ordered.zero_of {α : Type} {f : α → α → Int} (h : Ordered f) {a b c : α} (e : f a b = 0) : f b c ≤ 0 ↔ f a c ≤ 0 := by
  have e' : f b a = 0 := by have := h.anti a b; omega
  exact ⟨fun k => h.le_le a b c (by omega) k, fun k => h.le_le b a c (by omega) k⟩
/-- One order, and where it tells nothing another one. -/
theorem ordered_then {α : Type} {f g : α → α → Int} (hf : Ordered f) (hg : Ordered g) : Ordered fun a b => if f a b = 0 then g a b else f a b where
  refl a := by simp only [hf.refl, hg.refl, if_true]
  anti a b := by
    have h1 := hf.anti a b
    have h2 := hg.anti a b
    split <;> split <;> omega
  low a b := by have h1 := hf.low a b; have h2 := hg.low a b; split <;> omega
  high a b := by have h1 := hf.high a b; have h2 := hg.high a b; split <;> omega
  le_le a b c h1 h2 := by
    have f1 : f a b ≤ 0 := by split at h1 <;> omega
    have f2 : f b c ≤ 0 := by split at h2 <;> omega
    have f3 := hf.le_le a b c f1 f2
    split
    · rename_i h0
      have e1 : f a b = 0 := by
        have := hf.le_le b c a f2 (by have := hf.anti a c; omega)
        have := hf.anti a b; omega
      have e2 : f b c = 0 := by
        have := hf.le_le c a b (by have := hf.anti a c; omega) f1
        have := hf.anti b c; omega
      rw [if_pos e1] at h1
      rw [if_pos e2] at h2
      exact hg.le_le a b c h1 h2
    · exact f3
  le_lt a b c h1 h2 := by
    have f1 : f a b ≤ 0 := by split at h1 <;> omega
    have f2 : f b c ≤ 0 := by split at h2 <;> omega
    have f3 := hf.le_le a b c f1 f2
    split
    · rename_i h0
      have e1 : f a b = 0 := by
        have := hf.le_le b c a f2 (by have := hf.anti a c; omega)
        have := hf.anti a b; omega
      have e2 : f b c = 0 := by
        have := hf.le_le c a b (by have := hf.anti a c; omega) f1
        have := hf.anti b c; omega
      rw [if_pos e1] at h1
      rw [if_pos e2] at h2
      exact hg.le_lt a b c h1 h2
    · omega
theorem ordered_on {α β : Type} {f : β → β → Int} (h : Ordered f) (p : α → β) : Ordered fun a b => f (p a) (p b) :=
  ⟨fun _ => h.refl _, fun _ _ => h.anti _ _, fun _ _ => h.low _ _, fun _ _ => h.high _ _, fun _ _ _ => h.le_le _ _ _, fun _ _ _ => h.le_lt _ _ _⟩

/-! ### What stands in a line -/
structure Sl where
  id : Int
  rank : Int
  text : ByteArray
  turn : Int
def cmpS (x y : Sl) : Int := if compareInt x.rank y.rank = 0 then (if cmpT x.text.toList y.text.toList = 0 then compareInt x.turn y.turn else cmpT x.text.toList y.text.toList) else compareInt x.rank y.rank
theorem ordered_sl : Ordered cmpS := ordered_then (ordered_on ordered_int Sl.rank) (ordered_then (ordered_on ordered_text fun x : Sl => x.text.toList) (ordered_on ordered_int Sl.turn))
def klt (x y : Sl) : Prop := cmpS x y < 0
def kle (x y : Sl) : Prop := ¬ cmpS y x < 0
theorem kle_iff {x y : Sl} : kle x y ↔ cmpS x y ≤ 0 := by unfold kle; have := ordered_sl.anti x y; omega
theorem tot_kle : Tot kle := by
  constructor
  · intro x y; rw [kle_iff, kle_iff]; have := ordered_sl.anti x y; omega
  · intro x y z; rw [kle_iff, kle_iff, kle_iff]; exact ordered_sl.le_le x y z
theorem klt_irr (z : Sl) : ¬ klt z z := by unfold klt; have := ordered_sl.refl z; omega
theorem klt_trans {x y z : Sl} (h : klt x y) (k : klt y z) : klt x z := ordered_sl.le_lt x y z (by unfold klt at h; omega) k
theorem not_klt_of_kle {x y : Sl} (h : kle x y) : ¬ klt y x := h
theorem kle_of_klt {x y : Sl} (h : klt x y) : kle x y := by rw [kle_iff]; unfold klt at h; omega
theorem cmpI_cases (a b : Int) : (compareInt a b = -1 ∧ a < b) ∨ (compareInt a b = 0 ∧ a = b) ∨ (compareInt a b = 1 ∧ b < a) := by
  unfold compareInt
  by_cases h : a < b
  · simp [h]
  · by_cases h2 : b < a
    · simp [h, h2]
    · simp [h, h2]; omega
/-- Those that have one text: by rank, then by turn. -/
theorem klt_text {x y : Sl} (e : x.text = y.text) : klt x y ↔ x.rank < y.rank ∨ (x.rank = y.rank ∧ x.turn < y.turn) := by
  unfold klt cmpS
  rw [e]
  have h0 : cmpT y.text.toList y.text.toList = 0 := ordered_text.refl _
  rw [h0]
  simp only [if_true]
  rcases cmpI_cases x.rank y.rank with ⟨h1, h2⟩ | ⟨h1, h2⟩ | ⟨h1, h2⟩ <;> rcases cmpI_cases x.turn y.turn with ⟨k1, k2⟩ | ⟨k1, k2⟩ | ⟨k1, k2⟩ <;> rw [h1, k1] <;> simp <;> omega
/-- Those that have one rank: by text, then by turn. -/
theorem klt_rank {x y : Sl} (e : x.rank = y.rank) : klt x y ↔ Op.bytesLess x.text.toList y.text.toList = true ∨ (x.text.toList = y.text.toList ∧ x.turn < y.turn) := by
  unfold klt cmpS
  have h0 : compareInt x.rank y.rank = 0 := by rw [e]; exact ordered_int.refl _
  rw [if_pos h0]
  rcases cmpT_cases x.text.toList y.text.toList with ⟨h1, h2⟩ | ⟨h1, h2⟩ | ⟨h1, h2⟩
  · rw [h1]; simp [h2]
  · rw [h1, h2]
    rcases cmpI_cases x.turn y.turn with ⟨k1, k2⟩ | ⟨k1, k2⟩ | ⟨k1, k2⟩ <;> rw [k1] <;> simp [less_irrefl] <;> omega
  · rw [h1, less_asymm h2]
    simp
    intro e'
    rw [e', less_irrefl] at h2
    cases h2
/-- In order, each once. -/
def Srt (l : List Sl) : Prop := l.Pairwise klt
/-- Two lists in order that hold the same are one. -/
theorem srt_unique : ∀ l l' : List Sl, Srt l → Srt l' → (∀ x, x ∈ l ↔ x ∈ l') → l = l'
  | [], [], _, _, _ => rfl
  | [], y :: l', _, _, h => by have := (h y).2 (by simp); simp at this
  | x :: l, [], _, _, h => by have := (h x).1 (by simp); simp at this
  | x :: l, y :: l', hs, hs', h => by
    have hx := List.pairwise_cons.1 hs
    have hy := List.pairwise_cons.1 hs'
    have e : x = y := by
      rcases List.mem_cons.1 ((h x).1 (by simp)) with e | e
      · exact e
      · rcases List.mem_cons.1 ((h y).2 (by simp)) with e' | e'
        · exact e'.symm
        · exact absurd (klt_trans (hy.1 x e) (hx.1 y e')) (klt_irr _)
    subst e
    rw [srt_unique l l' hx.2 hy.2 (fun z => ⟨fun hz => ?_, fun hz => ?_⟩)]
    · rcases List.mem_cons.1 ((h z).1 (by simp [hz])) with e | e
      · subst e; exact absurd (hx.1 z hz) (klt_irr z)
      · exact e
    · rcases List.mem_cons.1 ((h z).2 (by simp [hz])) with e | e
      · subst e; exact absurd (hy.1 z hz) (klt_irr z)
      · exact e
/-- Laid in where it stands in order: ahead of the first one that it comes ahead of. -/
def ins (x : Sl) : List Sl → List Sl
  | [] => [x]
  | y :: l => if cmpS x y < 0 then x :: y :: l else y :: ins x l
theorem mem_ins {x y : Sl} : ∀ l : List Sl, y ∈ ins x l ↔ y = x ∨ y ∈ l
  | [] => by simp [ins]
  | z :: l => by
    unfold ins
    split
    · rw [List.mem_cons]
    · rw [List.mem_cons, mem_ins l, List.mem_cons]
      constructor
      · rintro (h | h | h)
        · exact .inr (.inl h)
        · exact .inl h
        · exact .inr (.inr h)
      · rintro (h | h | h)
        · exact .inr (.inl h)
        · exact .inl h
        · exact .inr (.inr h)
theorem len_ins (x : Sl) : ∀ l : List Sl, (ins x l).length = l.length + 1
  | [] => rfl
  | z :: l => by
    unfold ins
    split
    · rfl
    · rw [List.length_cons, len_ins x l, List.length_cons]
theorem srt_ins {x : Sl} : ∀ l : List Sl, Srt l → (∀ y ∈ l, y.turn ≠ x.turn) → Srt (ins x l)
  | [], _, _ => List.pairwise_singleton _ _
  | z :: l, hs, hx => by
    have hz := List.pairwise_cons.1 hs
    unfold ins
    split
    · rename_i hlt
      refine List.pairwise_cons.2 ⟨fun y hy => ?_, hs⟩
      rcases List.mem_cons.1 hy with rfl | hy
      · exact hlt
      · exact klt_trans (show klt x z from hlt) (hz.1 y hy)
    · rename_i hlt
      refine List.pairwise_cons.2 ⟨fun y hy => ?_, srt_ins l hz.2 (fun y hy => hx y (by simp [hy]))⟩
      rcases (mem_ins l).1 hy with rfl | hy
      · have h1 := ordered_sl.anti y z
        have h2 := hx z (by simp)
        unfold klt
        rcases (by omega : cmpS z y < 0 ∨ 0 ≤ cmpS z y) with h | h
        · exact h
        · have h3 : cmpS y z = 0 := by omega
          exfalso
          unfold cmpS at h3
          split at h3
          · split at h3
            · rcases cmpI_cases y.turn z.turn with ⟨k1, k2⟩ | ⟨k1, k2⟩ | ⟨k1, k2⟩
              · omega
              · exact h2 k2.symm
              · omega
            · rename_i h4; exact h4 h3
          · rename_i h4; exact h4 h3
      · exact hz.1 y hy
/-- Laid in behind all of its rank, where all have one text and it comes last. -/
def insL (l : List Sl) (x : Sl) : List Sl := l.takeWhile (fun y => decide (y.rank ≤ x.rank)) ++ x :: l.dropWhile (fun y => decide (y.rank ≤ x.rank))
theorem insL_le {y x : Sl} (l : List Sl) (h : y.rank ≤ x.rank) : insL (y :: l) x = y :: insL l x := by
  unfold insL
  rw [List.takeWhile_cons, List.dropWhile_cons, if_pos (by simpa using h), if_pos (by simpa using h)]
  rfl
theorem insL_gt {y x : Sl} (l : List Sl) (h : ¬ y.rank ≤ x.rank) : insL (y :: l) x = x :: y :: l := by
  unfold insL
  rw [List.takeWhile_cons, List.dropWhile_cons, if_neg (by simpa using h), if_neg (by simpa using h)]
  rfl
theorem ins_insL {x : Sl} : ∀ l : List Sl, (∀ y ∈ l, y.text = x.text ∧ y.turn < x.turn) → ins x l = insL l x
  | [], _ => rfl
  | z :: l, h => by
    have hz := h z (by simp)
    have hi := ins_insL l (fun y hy => h y (by simp [hy]))
    have hk := klt_text (x := x) (y := z) hz.1.symm
    unfold klt at hk
    unfold ins
    by_cases hr : z.rank ≤ x.rank
    · rw [insL_le l hr, if_neg (by rw [hk]; omega), hi]
    · rw [insL_gt l hr, if_pos (by rw [hk]; omega)]

/-! ### A row that holds what a list holds -/
def Cont (a : Nat → Sl) (n : Nat) (r : List Sl) : Prop := (∀ k, k < n → a k ∈ r) ∧ (∀ x ∈ r, ∃ k, k < n ∧ a k = x) ∧ (∀ i j, i < n → j < n → a i = a j → i = j) ∧ r.length = n
/-- Places that hold the same, in another order. -/
def Pm (n : Nat) (b b' : Nat → Nat) : Prop := (∀ k, k < n → ∃ j, j < n ∧ b' k = b j) ∧ (∀ k, k < n → ∃ j, j < n ∧ b k = b' j)
theorem Pm.refl (n : Nat) (b : Nat → Nat) : Pm n b b := ⟨fun k hk => ⟨k, hk, rfl⟩, fun k hk => ⟨k, hk, rfl⟩⟩
theorem Pm.trans {n : Nat} {b b' b'' : Nat → Nat} (h : Pm n b b') (k : Pm n b' b'') : Pm n b b'' := by
  refine ⟨fun i hi => ?_, fun i hi => ?_⟩
  · obtain ⟨j, hj, e⟩ := k.1 i hi
    obtain ⟨l, hl, e'⟩ := h.1 j hj
    exact ⟨l, hl, e.trans e'⟩
  · obtain ⟨j, hj, e⟩ := h.2 i hi
    obtain ⟨l, hl, e'⟩ := k.2 j hj
    exact ⟨l, hl, e.trans e'⟩
theorem Pm.mono {n m : Nat} {b b' : Nat → Nat} (h : Pm n b b') (hm : n ≤ m) (he : ∀ k, n ≤ k → b' k = b k) : Pm m b b' := by
  refine ⟨fun i hi => ?_, fun i hi => ?_⟩
  · by_cases hin : i < n
    · obtain ⟨j, hj, e⟩ := h.1 i hin; exact ⟨j, by omega, e⟩
    · exact ⟨i, hi, he i (by omega)⟩
  · by_cases hin : i < n
    · obtain ⟨j, hj, e⟩ := h.2 i hin; exact ⟨j, by omega, e⟩
    · exact ⟨i, hi, (he i (by omega)).symm⟩
theorem pm_sw {n i j : Nat} (b : Nat → Nat) (hi : i < n) (hj : j < n) : Pm n b (sw b i j) := by
  refine ⟨fun k hk => ?_, fun k hk => ?_⟩
  · unfold sw
    split
    · exact ⟨j, hj, rfl⟩
    · split
      · exact ⟨i, hi, rfl⟩
      · exact ⟨k, hk, rfl⟩
  · by_cases e1 : k = i
    · subst e1; exact ⟨j, hj, (sw_right _ _ _).symm⟩
    · by_cases e2 : k = j
      · subst e2; exact ⟨i, hi, (sw_left _ _ _).symm⟩
      · exact ⟨k, hk, (sw_far b e1 e2).symm⟩
theorem Pm.cont {n : Nat} {b b' : Nat → Nat} {S : Nat → Sl} {r : List Sl} (h : Pm n b b') (hinj : ∀ i j, i < n → j < n → b' i = b' j → i = j) (hc : Cont (fun k => S (b k)) n r) : Cont (fun k => S (b' k)) n r := by
  obtain ⟨h1, h2, h3, h4⟩ := hc
  refine ⟨fun k hk => ?_, fun x hx => ?_, fun i j hi hj e => ?_, h4⟩
  · obtain ⟨j, hj, e⟩ := h.1 k hk
    show S (b' k) ∈ r
    rw [e]; exact h1 j hj
  · obtain ⟨k, hk, e⟩ := h2 x hx
    obtain ⟨j, hj, e'⟩ := h.2 k hk
    exact ⟨j, hj, by show S (b' j) = x; rw [← e']; exact e⟩
  · obtain ⟨i', hi', ei⟩ := h.1 i hi
    obtain ⟨j', hj', ej⟩ := h.1 j hj
    have e2 : S (b i') = S (b j') := by rw [← ei, ← ej]; exact e
    have := h3 i' j' hi' hj' e2
    exact hinj i j hi hj (by rw [ei, ej, this])
theorem cont_head {a : Nat → Sl} {n : Nat} {x : Sl} {r : List Sl} (h : Cont a n (x :: r)) (hs : Srt (x :: r)) (hp : Hp kle a n) : a 0 = x := by
  obtain ⟨h1, h2, _, h4⟩ := h
  have hn : 0 < n := by rw [← h4]; simp
  obtain ⟨k, hk, hx⟩ := h2 x (by simp)
  have hm := root_min tot_kle hp k hk
  rw [hx] at hm
  rcases List.mem_cons.1 (h1 0 hn) with e | e
  · exact e
  · exact absurd ((List.pairwise_cons.1 hs).1 _ e) (not_klt_of_kle hm)
theorem cont_nil (a : Nat → Sl) : Cont a 0 [] := ⟨fun k hk => by omega, fun x hx => by simp at hx, fun i j hi => by omega, rfl⟩
/-- One more, behind the row. -/
theorem cont_push {a b : Nat → Sl} {n : Nat} {r r' : List Sl} {x : Sl} (h : Cont a n r) (hx : x ∉ r) (hb : b n = x) (hs : ∀ k, k < n → b k = a k) (hm : ∀ y, y ∈ r' ↔ y = x ∨ y ∈ r) (hl : r'.length = r.length + 1) : Cont b (n + 1) r' := by
  obtain ⟨h1, h2, h3, h4⟩ := h
  refine ⟨fun k hk => ?_, fun y hy => ?_, fun i j hi hj e => ?_, by rw [hl, h4]⟩
  · by_cases e : k = n
    · subst e; rw [hb]; exact (hm _).2 (.inl rfl)
    · rw [hs k (by omega)]; exact (hm _).2 (.inr (h1 k (by omega)))
  · rcases (hm y).1 hy with rfl | hy
    · exact ⟨n, by omega, hb⟩
    · obtain ⟨k, hk, rfl⟩ := h2 y hy
      exact ⟨k, by omega, hs k hk⟩
  · by_cases ei : i = n
    · by_cases ej : j = n
      · omega
      · subst ei
        rw [hb, hs j (by omega)] at e
        exact absurd (e ▸ h1 j (by omega)) hx
    · by_cases ej : j = n
      · subst ej
        rw [hb, hs i (by omega)] at e
        exact absurd (e ▸ h1 i (by omega)) hx
      · rw [hs i (by omega), hs j (by omega)] at e
        exact h3 i j (by omega) (by omega) e
theorem srt_out {p q : List Sl} {x : Sl} (h : Srt (p ++ x :: q)) : Srt (p ++ q) ∧ x ∉ p ++ q := by
  obtain ⟨h1, h2, h3⟩ := List.pairwise_append.1 h
  obtain ⟨h4, h5⟩ := List.pairwise_cons.1 h2
  refine ⟨List.pairwise_append.2 ⟨h1, h5, fun y hy z hz => h3 y hy z (by simp [hz])⟩, fun hx => ?_⟩
  rcases List.mem_append.1 hx with hx | hx
  · exact klt_irr x (h3 x hx x (by simp))
  · exact klt_irr x (h4 x hx)
/-- One less, at the end of the row. -/
theorem cont_cut {a : Nat → Sl} {n : Nat} {p q : List Sl} {x : Sl} (h : Cont a (n + 1) (p ++ x :: q)) (hx : a n = x) (hs : Srt (p ++ x :: q)) : Cont a n (p ++ q) := by
  obtain ⟨h1, h2, h3, h4⟩ := h
  have hno := (srt_out hs).2
  refine ⟨fun k hk => ?_, fun y hy => ?_, fun i j hi hj e => h3 i j (by omega) (by omega) e, by simp at h4 ⊢; omega⟩
  · have hne : a k ≠ x := fun e => by
      have := h3 k n (by omega) (by omega) (by rw [e, hx])
      omega
    rcases List.mem_append.1 (h1 k (by omega)) with hk' | hk'
    · simp [hk']
    · rcases List.mem_cons.1 hk' with e | hk'
      · exact absurd e hne
      · simp [hk']
  · obtain ⟨k, hk, e⟩ := h2 y (by rcases List.mem_append.1 hy with hy | hy <;> simp [hy])
    refine ⟨k, ?_, e⟩
    rcases Nat.lt_or_ge k n with hl | hl
    · exact hl
    · obtain rfl : k = n := by omega
      rw [hx] at e
      subst e
      exact absurd hy hno
/-- One that is replaced. -/
theorem cont_set {a b : Nat → Sl} {n i : Nat} {p q r' : List Sl} {x x' : Sl} (h : Cont a n (p ++ x :: q)) (hs : Srt (p ++ x :: q)) (hi : i < n) (hx : a i = x) (hx' : x' ∉ p ++ q) (hb : b i = x') (ho : ∀ k, k ≠ i → b k = a k) (hm : ∀ y, y ∈ r' ↔ y = x' ∨ y ∈ p ++ q) (hl : r'.length = (p ++ q).length + 1) : Cont b n r' := by
  obtain ⟨h1, h2, h3, h4⟩ := h
  have hno := (srt_out hs).2
  have hmem : ∀ k, k < n → k ≠ i → a k ∈ p ++ q := fun k hk hki => by
    have hne : a k ≠ x := fun e => hki (h3 k i hk hi (by rw [e, hx]))
    rcases List.mem_append.1 (h1 k hk) with hk' | hk'
    · simp [hk']
    · rcases List.mem_cons.1 hk' with e | hk'
      · exact absurd e hne
      · simp [hk']
  refine ⟨fun k hk => ?_, fun y hy => ?_, fun k j hk hj e => ?_, by simp at hl h4 ⊢; omega⟩
  · by_cases e : k = i
    · subst e; rw [hb]; exact (hm _).2 (.inl rfl)
    · rw [ho k e]; exact (hm _).2 (.inr (hmem k hk e))
  · rcases (hm y).1 hy with rfl | hy
    · exact ⟨i, hi, hb⟩
    · obtain ⟨k, hk, e⟩ := h2 y (by rcases List.mem_append.1 hy with hy | hy <;> simp [hy])
      have hki : k ≠ i := fun e' => by subst e'; rw [hx] at e; subst e; exact hno hy
      exact ⟨k, hk, by rw [ho k hki]; exact e⟩
  · by_cases ek : k = i
    · by_cases ej : j = i
      · omega
      · subst ek
        rw [hb, ho j ej] at e
        exact absurd (e ▸ hmem j hj ej) hx'
    · by_cases ej : j = i
      · subst ej
        rw [hb, ho k ek] at e
        exact absurd (e ▸ hmem k hk ek) hx'
      · rw [ho k ek, ho j ej] at e
        exact h3 k j hk hj e
end Go.Proofs.YtnkdhipeklphaaaDoor
