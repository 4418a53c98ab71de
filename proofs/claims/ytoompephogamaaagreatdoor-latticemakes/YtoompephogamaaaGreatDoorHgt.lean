/- Plain facts on how long the longest way down from a place is: all places in order are those of height 0, then 1, and so on. No program is in it. -/
import Derived.Test.YtoompephogamaaaGreatDoorList
namespace Go.Proofs.YtoompephogamaaaGreatDoor

def under (ls : List Lab) (i j : Nat) : Bool := j != i && domAt ls i j
def topTo (f : Nat → Nat) (p : Nat → Bool) : Nat → Nat
  | 0 => 0
  | k + 1 => if p k then max (topTo f p k) (1 + f k) else topTo f p k
def hgtF (ls : List Lab) : Nat → Nat → Nat
  | 0, _ => 0
  | f + 1, i => topTo (hgtF ls f) (under ls i) ls.length
def hgt (ls : List Lab) (i : Nat) : Nat := hgtF ls ls.length i

theorem topTo_le {f : Nat → Nat} {p : Nat → Bool} {m : Nat} : ∀ k, topTo f p k ≤ m ↔ ∀ j, j < k → p j = true → f j < m
  | 0 => by simp [topTo]
  | k + 1 => by
    have ih := topTo_le (f := f) (p := p) (m := m) k
    unfold topTo
    split
    · rename_i hp
      rw [Nat.max_le, ih]
      constructor
      · intro ⟨h1, h2⟩ j hj hpj
        by_cases e : j = k
        · subst e; omega
        · exact h1 j (by omega) hpj
      · intro h
        exact ⟨fun j hj => h j (by omega), by have := h k (by omega) hp; omega⟩
    · rename_i hp
      rw [ih]
      constructor
      · intro h j hj hpj
        by_cases e : j = k
        · subst e; exact absurd hpj hp
        · exact h j (by omega) hpj
      · intro h j hj
        exact h j (by omega)
theorem topTo_congr {f g : Nat → Nat} {p : Nat → Bool} : ∀ k, (∀ j, j < k → p j = true → f j = g j) → topTo f p k = topTo g p k
  | 0, _ => rfl
  | k + 1, h => by
    have ih := topTo_congr (f := f) (g := g) (p := p) k fun j hj => h j (by omega)
    unfold topTo
    split
    · rename_i hp
      rw [ih, h k (by omega) hp]
    · exact ih

theorem hgtF_stays {ls : List Lab} (h : allW ls) (hd : ls.Nodup) : ∀ (f g i : Nat), (belowL ls i).length ≤ f → (belowL ls i).length ≤ g → i < ls.length → hgtF ls f i = hgtF ls g i
  | 0, _, i, hf, _, hi => by
    have : i ∈ belowL ls i := mem_below.2 (domAt_nat.2 ⟨⟨hi, hi⟩, dm_refl h i⟩)
    have := List.length_pos_of_mem this
    omega
  | f + 1, 0, i, _, hg, hi => by
    have : i ∈ belowL ls i := mem_below.2 (domAt_nat.2 ⟨⟨hi, hi⟩, dm_refl h i⟩)
    have := List.length_pos_of_mem this
    omega
  | f + 1, g + 1, i, hf, hg, hi => by
    unfold hgtF
    refine topTo_congr _ fun j hj hp => ?_
    simp only [under, Bool.and_eq_true, bne_iff_ne] at hp
    have := below_lt h hd hp.2 hp.1
    exact hgtF_stays h hd f g j (by omega) (by omega) hj
theorem below_len (ls : List Lab) (i : Int) : (belowL ls i).length ≤ ls.length := upTo_len _ _
theorem hgt_eq {ls : List Lab} (h : allW ls) (hd : ls.Nodup) {i : Nat} (hi : i < ls.length) : hgt ls i = topTo (hgt ls) (under ls i) ls.length := by
  have e : hgt ls i = hgtF ls (ls.length + 1) i := hgtF_stays h hd _ _ i (below_len ls i) (Nat.le_succ_of_le (below_len ls i)) hi
  rw [e]
  rfl
theorem hgt_le {ls : List Lab} (h : allW ls) (hd : ls.Nodup) {i m : Nat} (hi : i < ls.length) : hgt ls i ≤ m ↔ ∀ j, under ls i j = true → hgt ls j < m := by
  rw [hgt_eq h hd hi, topTo_le]
  constructor
  · intro hh j hj
    simp only [under, Bool.and_eq_true] at hj
    exact hh j (domAt_nat.1 hj.2).1.2 (by simp [under, hj])
  · intro hh j _ hj
    exact hh j hj

theorem mem_round {ls : List Lab} (h : allW ls) (hd : ls.Nodup) : ∀ (k i : Nat), i < ls.length → (i ∈ roundN ls k ↔ hgt ls i < k)
  | 0, i, _ => by simp [roundN]
  | k + 1, i, hi => by
    have ih := mem_round h hd k
    have hr : restsB ls (roundN ls k) i = true ↔ hgt ls i ≤ k := by
      rw [hgt_le h hd hi, restsB, List.all_eq_true]
      constructor
      · intro hh j hj
        simp only [under, Bool.and_eq_true, bne_iff_ne] at hj
        have := hh j (mem_below.2 hj.2)
        simp only [Bool.or_eq_true, beq_iff_eq, List.contains_iff_mem] at this
        rcases this with e | hm
        · exact absurd e hj.1
        · exact (ih j (domAt_nat.1 hj.2).1.2).1 hm
      · intro hh j hj
        have hj := mem_below.1 hj
        simp only [Bool.or_eq_true, beq_iff_eq, List.contains_iff_mem]
        by_cases e : j = i
        · exact .inl e
        · exact .inr ((ih j (domAt_nat.1 hj).1.2).2 (hh j (by simp [under, e, hj])))
    show i ∈ roundN ls k ++ nextL ls (roundN ls k) ↔ _
    rw [List.mem_append, ih i hi, nextL, mem_upTo]
    simp only [Bool.and_eq_true, hr, Bool.not_eq_true', List.contains_eq_mem, decide_eq_false_iff_not, ih i hi]
    omega
theorem next_hgt {ls : List Lab} (h : allW ls) (hd : ls.Nodup) (k : Nat) : nextL ls (roundN ls k) = upTo (fun i => hgt ls i == k) ls.length := by
  unfold nextL upTo
  refine List.filter_congr fun i hi => ?_
  have hi := List.mem_range.1 hi
  have m1 := mem_round h hd k i hi
  have m2 := mem_round h hd (k + 1) i hi
  rw [show roundN ls (k + 1) = roundN ls k ++ nextL ls (roundN ls k) from rfl, List.mem_append, nextL, mem_upTo] at m2
  rw [Bool.eq_iff_iff]
  simp only [Bool.and_eq_true, Bool.not_eq_true', List.contains_eq_mem, decide_eq_false_iff_not, beq_iff_eq] at *
  constructor
  · intro hh
    have := m2.1 (.inr ⟨hi, hh⟩)
    have := hh.1
    rw [m1] at this
    omega
  · intro hh
    have h1 : i ∉ roundN ls k := by rw [m1]; omega
    rcases m2.2 (by omega) with h2 | h2
    · exact absurd h2 h1
    · exact h2.2
/-- All places of height below k, height by height. -/
def hgtTo (ls : List Lab) : Nat → List Nat
  | 0 => []
  | k + 1 => hgtTo ls k ++ upTo (fun i => hgt ls i == k) ls.length
theorem hgtTo_round {ls : List Lab} (h : allW ls) (hd : ls.Nodup) : ∀ k, hgtTo ls k = roundN ls k
  | 0 => rfl
  | k + 1 => by
    show hgtTo ls k ++ _ = roundN ls k ++ _
    rw [hgtTo_round h hd k, next_hgt h hd k]
theorem hgtTo_order {ls : List Lab} (h : allW ls) (hd : ls.Nodup) : hgtTo ls ls.length = orderL ls := hgtTo_round h hd _
theorem hgtTo_len (ls : List Lab) (h : allW ls) (hd : ls.Nodup) (k : Nat) : (hgtTo ls k).length ≤ ls.length := by rw [hgtTo_round h hd]; exact roundN_len ls k
theorem hgt_lt {ls : List Lab} (h : allW ls) (hd : ls.Nodup) {i : Nat} (hi : i < ls.length) : hgt ls i < ls.length := by
  have : i ∈ orderL ls := by
    refine Classical.byContradiction fun hc => ?_
    have hn : (i :: orderL ls).Nodup := List.nodup_cons.2 ⟨hc, (roundN_good ls _).1⟩
    have := nodup_len hn (n := ls.length) fun x hx => by
      rcases List.mem_cons.1 hx with rfl | hx
      · exact hi
      · exact order_mem hx
    simp only [List.length_cons, order_len h hd] at this
    omega
  exact (mem_round h hd _ i hi).1 this
end Go.Proofs.YtoompephogamaaaGreatDoor
