/- Plain facts on the labels of a lattice as a list: what lies below each place, and all places in order. No program is in it. -/
import Derived.Test.YtoompephogamaaaGreatDoorMath
namespace Go.Proofs.YtoompephogamaaaGreatDoor

abbrev Lab := Int × Nat
theorem nodup_inj {α : Type} {l : List α} (h : l.Nodup) {i j : Nat} (hi : i < l.length) (hj : j < l.length) (e : l[i] = l[j]) : i = j := by
  have hp := List.pairwise_iff_getElem.1 h
  rcases Nat.lt_trichotomy i j with hlt | he | hlt
  · exact absurd e (hp i j hi hj hlt)
  · exact he
  · exact absurd e.symm (hp j i hj hi hlt)
theorem sub_len : ∀ (l m : List Nat), l.Nodup → (∀ x ∈ l, x ∈ m) → l.length ≤ m.length
  | [], _, _, _ => Nat.zero_le _
  | a :: l, m, hd, hs => by
    obtain ⟨h1, h2⟩ := List.nodup_cons.1 hd
    have ha : a ∈ m := hs a (by simp)
    have ih := sub_len l (m.erase a) h2 fun x hx => by
      have hxa : x ≠ a := fun e => h1 (by subst e; exact hx)
      exact (List.mem_erase_of_ne hxa).2 (hs x (by simp [hx]))
    have := List.length_pos_of_mem ha
    rw [List.length_erase_of_mem ha] at ih
    simp only [List.length_cons]
    omega
/-- A label as a value of its type. -/
def okW (a : Lab) : Prop := -9223372036854775808 ≤ a.1 ∧ a.1 ≤ 9223372036854775807 ∧ a.2 < 4294967296
def allW (ls : List Lab) : Prop := ∀ a ∈ ls, okW a
def dm (a b : Lab) : Bool := domB a.1 a.2 b.1 b.2
def lab (ls : List Lab) (i : Nat) : Lab := ls.getD i (0, 0)

/-- Whether a number is a place. -/
def isAt (ls : List Lab) (i : Int) : Bool := decide (0 ≤ i) && decide (i < ls.length)
def domAt (ls : List Lab) (i j : Int) : Bool := (isAt ls i && isAt ls j) && dm (lab ls i.toNat) (lab ls j.toNat)

/-- Those of the first k numbers that p is true of. -/
def upTo (p : Nat → Bool) (k : Nat) : List Nat := (List.range k).filter p
theorem upTo_zero (p : Nat → Bool) : upTo p 0 = [] := rfl
theorem upTo_yes {p : Nat → Bool} {k : Nat} (h : p k = true) : upTo p (k + 1) = upTo p k ++ [k] := by simp [upTo, List.range_succ, List.filter_append, h]
theorem upTo_no {p : Nat → Bool} {k : Nat} (h : p k = false) : upTo p (k + 1) = upTo p k := by simp [upTo, List.range_succ, List.filter_append, h]
theorem upTo_len (p : Nat → Bool) (k : Nat) : (upTo p k).length ≤ k := by
  have := List.length_filter_le p (List.range k)
  simpa [upTo] using this
theorem mem_upTo {p : Nat → Bool} {k i : Nat} : i ∈ upTo p k ↔ i < k ∧ p i = true := by simp [upTo]
theorem upTo_nodup (p : Nat → Bool) (k : Nat) : (upTo p k).Nodup := List.nodup_range.filter _

def belowL (ls : List Lab) (i : Int) : List Nat := upTo (fun j => domAt ls i j) ls.length
def aboveL (ls : List Lab) (i : Int) : List Nat := upTo (fun j => domAt ls j i) ls.length
def restsB (ls : List Lab) (os : List Nat) (i : Nat) : Bool := (belowL ls i).all fun j => j == i || os.contains j
def nextL (ls : List Lab) (os : List Nat) : List Nat := upTo (fun i => !os.contains i && restsB ls os i) ls.length
def roundN (ls : List Lab) : Nat → List Nat
  | 0 => []
  | k + 1 => roundN ls k ++ nextL ls (roundN ls k)
def orderL (ls : List Lab) : List Nat := roundN ls ls.length

theorem isAt_nat {ls : List Lab} {i : Nat} : isAt ls (i : Int) = true ↔ i < ls.length := by
  simp only [isAt, Bool.and_eq_true, decide_eq_true_eq]; omega
theorem domAt_nat {ls : List Lab} {i j : Nat} : domAt ls i j = true ↔ (i < ls.length ∧ j < ls.length) ∧ dm (lab ls i) (lab ls j) = true := by
  simp only [domAt, Bool.and_eq_true, isAt_nat, Int.toNat_natCast]
theorem lab_ok {ls : List Lab} (h : allW ls) {i : Nat} (hi : i < ls.length) : okW (lab ls i) := by
  unfold lab; rw [List.getD_eq_getElem?_getD, List.getElem?_eq_getElem hi]; exact h _ (List.getElem_mem hi)
theorem lab_lt {ls : List Lab} (h : allW ls) (i : Nat) : (lab ls i).2 < 4294967296 := by
  by_cases hi : i < ls.length
  · exact (lab_ok h hi).2.2
  · unfold lab; rw [List.getD_eq_getElem?_getD, List.getElem?_eq_none (by omega)]; decide
theorem lab_inj {ls : List Lab} (h : ls.Nodup) {i j : Nat} (hi : i < ls.length) (hj : j < ls.length) (e : lab ls i = lab ls j) : i = j := by
  unfold lab at e
  rw [List.getD_eq_getElem?_getD, List.getD_eq_getElem?_getD, List.getElem?_eq_getElem hi, List.getElem?_eq_getElem hj] at e
  exact nodup_inj h hi hj e
theorem dm_refl {ls : List Lab} (h : allW ls) (i : Nat) : dm (lab ls i) (lab ls i) = true := dom_refl (lab_lt h i)
theorem domAt_trans {ls : List Lab} (h : allW ls) {i j k : Nat} (a : domAt ls i j = true) (b : domAt ls j k = true) : domAt ls i k = true := by
  rw [domAt_nat] at *
  exact ⟨⟨a.1.1, b.1.2⟩, dom_trans (lab_lt h i) (lab_lt h j) a.2 b.2⟩
theorem domAt_anti {ls : List Lab} (h : allW ls) (hd : ls.Nodup) {i j : Nat} (a : domAt ls i j = true) (b : domAt ls j i = true) : i = j := by
  rw [domAt_nat] at *
  have := dom_anti (lab_lt h i) (lab_lt h j) a.2 b.2
  exact lab_inj hd a.1.1 a.1.2 (Prod.ext this.1 this.2)

theorem mem_below {ls : List Lab} {i j : Nat} : j ∈ belowL ls i ↔ domAt ls i j = true := by
  unfold belowL; rw [mem_upTo]
  constructor
  · exact fun h => h.2
  · exact fun h => ⟨(domAt_nat.1 h).1.2, h⟩
theorem mem_above {ls : List Lab} {i j : Nat} : j ∈ aboveL ls i ↔ domAt ls j i = true := by
  unfold aboveL; rw [mem_upTo]
  constructor
  · exact fun h => h.2
  · exact fun h => ⟨(domAt_nat.1 h).1.1, h⟩

theorem upTo_lt {p q : Nat → Bool} {n : Nat} (hpq : ∀ x, x < n → p x = true → q x = true) {x : Nat} (hx : x < n) (hq : q x = true) (hp : p x = false) : (upTo p n).length < (upTo q n).length := by
  have e : upTo p n = (upTo q n).filter p := by
    unfold upTo
    rw [List.filter_filter]
    refine List.filter_congr fun y hy => ?_
    have := hpq y (List.mem_range.1 hy)
    cases hpy : p y <;> simp_all
  rw [e]
  refine List.length_filter_lt_length_iff_exists.2 ⟨x, mem_upTo.2 ⟨hx, hq⟩, by simp [hp]⟩

theorem below_lt {ls : List Lab} (h : allW ls) (hd : ls.Nodup) {i j : Nat} (hij : domAt ls i j = true) (hne : j ≠ i) : (belowL ls j).length < (belowL ls i).length := by
  have hi := (domAt_nat.1 hij).1.1
  refine upTo_lt (fun x _ hx => domAt_trans h hij hx) hi (domAt_nat.2 ⟨⟨hi, hi⟩, dm_refl h i⟩) ?_
  cases hb : domAt ls j i
  · rfl
  · exact absurd (domAt_anti h hd hb hij) hne

theorem exists_next {ls : List Lab} (h : allW ls) (hd : ls.Nodup) (os : List Nat) : ∀ (m i : Nat), (belowL ls i).length ≤ m → i < ls.length → i ∉ os → ∃ x, x ∈ nextL ls os
  | 0, i, hm, hi, _ => by
    have : i ∈ belowL ls i := mem_below.2 (domAt_nat.2 ⟨⟨hi, hi⟩, dm_refl h i⟩)
    have := List.length_pos_of_mem this
    omega
  | m + 1, i, hm, hi, ho => by
    by_cases hr : restsB ls os i = true
    · exact ⟨i, mem_upTo.2 ⟨hi, by simp [hr, ho]⟩⟩
    · have : ∃ j ∈ belowL ls i, ¬((j == i || os.contains j) = true) := by
        rw [Bool.not_eq_true] at hr
        obtain ⟨j, hj, hjn⟩ := List.all_eq_false.1 hr
        exact ⟨j, hj, hjn⟩
      obtain ⟨j, hj, hjn⟩ := this
      simp only [Bool.or_eq_true, beq_iff_eq, List.contains_iff_mem, not_or] at hjn
      have hdj := mem_below.1 hj
      have := below_lt h hd hdj hjn.1
      exact exists_next h hd os m j (by omega) (domAt_nat.1 hdj).1.2 hjn.2

theorem roundN_good (ls : List Lab) : ∀ k, (roundN ls k).Nodup ∧ ∀ x ∈ roundN ls k, x < ls.length
  | 0 => ⟨List.nodup_nil, by simp [roundN]⟩
  | k + 1 => by
    obtain ⟨h1, h2⟩ := roundN_good ls k
    refine ⟨?_, ?_⟩
    · refine List.nodup_append.2 ⟨h1, upTo_nodup _ _, ?_⟩
      intro a ha b hb e
      subst e
      have := (mem_upTo.1 hb).2
      simp only [Bool.and_eq_true, Bool.not_eq_true', List.contains_eq_mem, decide_eq_false_iff_not] at this
      exact this.1 ha
    · intro x hx
      rcases List.mem_append.1 hx with hx | hx
      · exact h2 x hx
      · exact (mem_upTo.1 hx).1

theorem nodup_len {l : List Nat} (h : l.Nodup) {n : Nat} (hl : ∀ x ∈ l, x < n) : l.length ≤ n := by
  have := sub_len l (List.range n) h fun x hx => List.mem_range.2 (hl x hx)
  simpa using this
theorem roundN_len (ls : List Lab) (k : Nat) : (roundN ls k).length ≤ ls.length := nodup_len (roundN_good ls k).1 (roundN_good ls k).2

theorem missing {l : List Nat} {n : Nat} (h : l.length < n) : ∃ i, i < n ∧ i ∉ l := by
  refine Classical.byContradiction fun hn => ?_
  have hs : ∀ i ∈ List.range n, i ∈ l := fun i hi => Classical.byContradiction fun hc => hn ⟨i, List.mem_range.1 hi, hc⟩
  have := sub_len (List.range n) l List.nodup_range hs
  simp at this
  omega

theorem next_pos {ls : List Lab} (h : allW ls) (hd : ls.Nodup) {os : List Nat} (ho : os.length < ls.length) : 0 < (nextL ls os).length := by
  obtain ⟨i, hi, hio⟩ := missing ho
  obtain ⟨x, hx⟩ := exists_next h hd os _ i (Nat.le_refl _) hi hio
  exact List.length_pos_of_mem hx

theorem roundN_grows {ls : List Lab} (h : allW ls) (hd : ls.Nodup) : ∀ k, k ≤ ls.length → k ≤ (roundN ls k).length
  | 0, _ => Nat.zero_le _
  | k + 1, hk => by
    have ih := roundN_grows h hd k (by omega)
    simp only [roundN, List.length_append]
    by_cases hl : (roundN ls k).length < ls.length
    · have := next_pos h hd hl; omega
    · omega
theorem order_len {ls : List Lab} (h : allW ls) (hd : ls.Nodup) : (orderL ls).length = ls.length :=
  Nat.le_antisymm (roundN_len ls _) (roundN_grows h hd _ (Nat.le_refl _))
theorem roundN_stays {ls : List Lab} {k : Nat} (hk : ls.length ≤ (roundN ls k).length) : ∀ j, roundN ls (k + j) = roundN ls k
  | 0 => rfl
  | j + 1 => by
    have ih := roundN_stays hk j
    show roundN ls (k + j) ++ nextL ls (roundN ls (k + j)) = _
    rw [ih]
    have h1 := roundN_len ls (k + 1)
    simp only [roundN, List.length_append] at h1
    have : nextL ls (roundN ls k) = [] := List.eq_nil_of_length_eq_zero (by omega)
    rw [this, List.append_nil]
theorem roundN_order {ls : List Lab} (h : allW ls) (hd : ls.Nodup) {k : Nat} (hk : ls.length ≤ (roundN ls k).length) : roundN ls k = orderL ls := by
  by_cases hkn : k ≤ ls.length
  · have := roundN_stays hk (ls.length - k)
    rw [show k + (ls.length - k) = ls.length by omega] at this
    exact this.symm
  · have := roundN_stays (k := ls.length) (by rw [show roundN ls ls.length = orderL ls from rfl, order_len h hd]; exact Nat.le_refl _) (k - ls.length)
    rw [show ls.length + (k - ls.length) = k by omega] at this
    exact this
theorem order_mem {ls : List Lab} {x : Nat} (hx : x ∈ orderL ls) : x < ls.length := (roundN_good ls _).2 x hx

/-- Each stands behind all others that it dominates. -/
theorem round_behind (ls : List Lab) : ∀ (k : Nat) (pre : List Nat) (x : Nat) (post : List Nat), roundN ls k = pre ++ x :: post → ∀ j ∈ belowL ls x, j ≠ x → j ∈ pre
  | 0, pre, x, post, e, _, _, _ => by simp [roundN] at e
  | k + 1, pre, x, post, e, j, hj, hne => by
    simp only [roundN] at e
    rcases List.append_eq_append_iff.1 e with ⟨t, e1, e2⟩ | ⟨t, e1, e2⟩
    · have hx : x ∈ nextL ls (roundN ls k) := by rw [e2]; simp
      have hp := (mem_upTo.1 hx).2
      simp only [Bool.and_eq_true] at hp
      have := List.all_eq_true.1 hp.2 j hj
      simp only [Bool.or_eq_true, beq_iff_eq, List.contains_iff_mem] at this
      rcases this with h | h
      · exact absurd h hne
      · rw [e1]; exact List.mem_append_left _ h
    · cases t with
      | nil =>
        simp only [List.nil_append] at e2
        have hx : x ∈ nextL ls (roundN ls k) := by rw [← e2]; simp
        have hp := (mem_upTo.1 hx).2
        simp only [Bool.and_eq_true] at hp
        have := List.all_eq_true.1 hp.2 j hj
        simp only [Bool.or_eq_true, beq_iff_eq, List.contains_iff_mem] at this
        rcases this with h | h
        · exact absurd h hne
        · rw [e1, List.append_nil] at h; exact h
      | cons y t =>
        simp only [List.cons_append, List.cons.injEq] at e2
        obtain ⟨rfl, e2⟩ := e2
        exact round_behind ls k pre x t e1 j hj hne

theorem order_once {ls : List Lab} (k i : Nat) (hki : k < i) (hi : i < (orderL ls).length) : (orderL ls).getD k 0 ≠ (orderL ls).getD i 0 := by
  have hd := (roundN_good ls ls.length).1
  rw [List.getD_eq_getElem?_getD, List.getD_eq_getElem?_getD, List.getElem?_eq_getElem (by omega), List.getElem?_eq_getElem hi]
  intro e
  have := nodup_inj (l := orderL ls) hd (by omega) hi e
  omega
theorem order_behind {ls : List Lab} (k i : Nat) (hki : k < i) (hi : i < (orderL ls).length) : domAt ls ((orderL ls).getD k 0 : Nat) ((orderL ls).getD i 0 : Nat) = false := by
  cases hb : domAt ls ((orderL ls).getD k 0 : Nat) ((orderL ls).getD i 0 : Nat)
  · rfl
  · exfalso
    have hne := order_once (ls := ls) k i hki hi
    have hd := (roundN_good ls ls.length).1
    have hk : k < (orderL ls).length := by omega
    have e : roundN ls ls.length = (orderL ls).take k ++ (orderL ls).getD k 0 :: (orderL ls).drop (k + 1) := by
      show orderL ls = _
      rw [List.getD_eq_getElem?_getD, List.getElem?_eq_getElem hk, Option.getD_some, List.getElem_cons_drop hk, List.take_append_drop]
    have hm := round_behind ls ls.length _ _ _ e _ (mem_below.2 hb) hne.symm
    rw [List.getD_eq_getElem?_getD, List.getElem?_eq_getElem hi, Option.getD_some] at hm
    obtain ⟨m, hm, hme⟩ := List.mem_iff_getElem.1 hm
    rw [List.getElem_take] at hme
    have := nodup_inj (l := orderL ls) hd (by rw [List.length_take] at hm; omega) hi hme
    rw [List.length_take] at hm
    omega
end Go.Proofs.YtoompephogamaaaGreatDoor
