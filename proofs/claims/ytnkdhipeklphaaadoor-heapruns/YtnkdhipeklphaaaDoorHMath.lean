/- Plain facts on heaps that lie in a row: what one step up and one step down keep, the root is the least. No program is in it. -/
import Derived.Lib.Small
namespace Go.Proofs.YtnkdhipeklphaaaDoor

/-! ### An order, and a row of things -/
structure Tot {α : Type} (le : α → α → Prop) : Prop where
  total : ∀ x y, le x y ∨ le y x
  trans : ∀ x y z, le x y → le y z → le x z
theorem Tot.refl {α : Type} {le : α → α → Prop} (h : Tot le) (x : α) : le x x := by rcases h.total x x with e | e <;> exact e
theorem Tot.of_not {α : Type} {le : α → α → Prop} (h : Tot le) {x y : α} (hn : ¬ le x y) : le y x := by
  rcases h.total x y with e | e
  · exact absurd e hn
  · exact e
/-- Two places exchanged. -/
def sw {α : Type} (a : Nat → α) (i j : Nat) : Nat → α := fun k => if k = i then a j else if k = j then a i else a k
theorem sw_left {α : Type} (a : Nat → α) (i j : Nat) : sw a i j i = a j := by simp [sw]
theorem sw_right {α : Type} (a : Nat → α) (i j : Nat) : sw a i j j = a i := by
  unfold sw
  by_cases h : j = i
  · subst h; simp
  · rw [if_neg h, if_pos rfl]
theorem sw_far {α : Type} (a : Nat → α) {i j k : Nat} (h : k ≠ i) (h' : k ≠ j) : sw a i j k = a k := by unfold sw; rw [if_neg h, if_neg h']
/-- The place above. -/
def par (k : Nat) : Nat := (k - 1) / 2
theorem par_lt {k : Nat} (h : 0 < k) : par k < k := by unfold par; omega
theorem par_iff {k i : Nat} (h : 0 < k) : par k = i ↔ k = 2 * i + 1 ∨ k = 2 * i + 2 := by unfold par; omega
section
variable {α : Type} {le : α → α → Prop}
/-- A heap of n things. -/
def Hp (le : α → α → Prop) (a : Nat → α) (n : Nat) : Prop := ∀ k, 0 < k → k < n → le (a (par k)) (a k)
/-- A heap but for what stands at i; what stands below i is not less than what stands above it. -/
def Mid (le : α → α → Prop) (a : Nat → α) (n i : Nat) : Prop :=
  (∀ k, 0 < k → k < n → k ≠ i → par k ≠ i → le (a (par k)) (a k)) ∧ (∀ k, 0 < k → k < n → par k = i → 0 < i → le (a (par i)) (a k))
/-- A heap but that what stands at i may be greater than what stands below it. -/
def Dn (le : α → α → Prop) (a : Nat → α) (n i : Nat) : Prop := Mid le a n i ∧ (0 < i → i < n → le (a (par i)) (a i))
/-- A heap but that what stands at i may be less than what stands above it. -/
def Up (le : α → α → Prop) (a : Nat → α) (n i : Nat) : Prop := Mid le a n i ∧ (∀ k, 0 < k → k < n → par k = i → le (a i) (a k))
theorem root_min (h : Tot le) {a : Nat → α} {n : Nat} (hp : Hp le a n) : ∀ k, k < n → le (a 0) (a k)
  | 0, _ => h.refl _
  | k + 1, hk => by
    have hl := par_lt (k := k + 1) (by omega)
    exact h.trans _ _ _ (root_min h hp (par (k + 1)) (by omega)) (hp (k + 1) (by omega) hk)
theorem up_done {a : Nat → α} {n i : Nat} (h : Up le a n i) (he : i = 0 ∨ n ≤ i ∨ le (a (par i)) (a i)) : Hp le a n := by
  intro k hk hn
  by_cases h1 : k = i
  · subst h1
    rcases he with rfl | he | he
    · omega
    · omega
    · exact he
  · by_cases h2 : par k = i
    · rw [h2]; exact h.2 k hk hn h2
    · exact h.1.1 k hk hn h1 h2
theorem dn_done {a : Nat → α} {n i : Nat} (h : Dn le a n i) (he : ∀ k, 0 < k → k < n → par k = i → le (a i) (a k)) : Hp le a n := by
  intro k hk hn
  by_cases h1 : k = i
  · subst h1; exact h.2 hk hn
  · by_cases h2 : par k = i
    · rw [h2]; exact he k hk hn h2
    · exact h.1.1 k hk hn h1 h2
/-- One step up. -/
theorem up_step (h : Tot le) {a : Nat → α} {n j : Nat} (hj : 0 < j) (hjn : j < n) (hu : Up le a n j) (hlt : ¬ le (a (par j)) (a j)) : Up le (sw a (par j) j) n (par j) := by
  have hpj := par_lt hj
  have hle : le (a j) (a (par j)) := h.of_not hlt
  have step : ∀ k, 0 < k → k < n → k ≠ j → par k ≠ j → le (a (par k)) (a k) := hu.1.1
  have hpp : 0 < par j → le (a (par (par j))) (a (par j)) := fun hp => step (par j) hp (by omega) (by omega) (by have := par_lt hp; omega)
  refine ⟨⟨?_, ?_⟩, ?_⟩
  · intro k hk hn h1 h2
    by_cases e1 : k = j
    · subst e1; exact absurd rfl h2
    · rw [sw_far a h1 e1]
      by_cases e2 : par k = j
      · rw [e2, sw_right]
        have := hu.1.2 k hk hn e2 hj
        exact this
      · rw [sw_far a h2 e2]
        exact step k hk hn e1 e2
  · intro k hk hn h1 hp
    have hpp2 := par_lt hp
    rw [sw_far a (k := par (par j)) (by omega) (by omega)]
    by_cases e1 : k = j
    · subst e1
      rw [sw_right]
      exact hpp hp
    · have hkp : k ≠ par j := by have := par_lt hk; omega
      rw [sw_far a hkp e1]
      have := step k hk hn e1 (by omega)
      rw [h1] at this
      exact h.trans _ _ _ (hpp hp) this
  · intro k hk hn h1
    rw [sw_left]
    by_cases e1 : k = j
    · subst e1; rw [sw_right]; exact hle
    · have hkp : k ≠ par j := by have := par_lt hk; omega
      rw [sw_far a hkp e1]
      have := step k hk hn e1 (by omega)
      rw [h1] at this
      exact h.trans _ _ _ hle this
/-- One step down, to the lesser of those below. -/
theorem dn_step (h : Tot le) {a : Nat → α} {n i j : Nat} (hj : 0 < j) (hjn : j < n) (hji : par j = i) (hd : Mid le a n i) (hmin : ∀ k, 0 < k → k < n → par k = i → le (a j) (a k)) (hlt : ¬ le (a i) (a j)) : Dn le (sw a i j) n j := by
  have hij : i < j := by have := par_lt hj; omega
  have hle : le (a j) (a i) := h.of_not hlt
  refine ⟨⟨?_, ?_⟩, ?_⟩
  · intro k hk hn h1 h2
    by_cases e1 : k = i
    · subst e1
      have hpk := par_lt hk
      rw [sw_left, sw_far a (k := par k) (by omega) (by omega)]
      exact hd.2 j hj hjn hji hk
    · rw [sw_far a e1 h1]
      by_cases e2 : par k = i
      · rw [e2, sw_left]
        exact hmin k hk hn e2
      · rw [sw_far a e2 h2]
        exact hd.1 k hk hn e1 e2
  · intro k hk hn h1 _
    have hkj : k ≠ j := by have := par_lt hk; omega
    have hki : k ≠ i := by have := par_lt hk; omega
    rw [hji, sw_left, sw_far a hki hkj]
    have := hd.1 k hk hn hki (by omega)
    rw [h1] at this
    exact this
  · intro _ _
    rw [hji, sw_left, sw_right]
    exact hle
/-- What was left as it was while a step down was asked for. -/
theorem mid_up {a : Nat → α} {n i : Nat} (hm : Mid le a n i) (he : ∀ k, 0 < k → k < n → par k = i → le (a i) (a k)) : Up le a n i := ⟨hm, he⟩
theorem hp_mid {a b : Nat → α} {n i : Nat} (h : Tot le) (hp : Hp le a n) (hb : ∀ k, k ≠ i → b k = a k) (hi : i < n) : Mid le b n i := by
  refine ⟨?_, ?_⟩
  · intro k hk hn h1 h2
    rw [hb k h1, hb _ h2]
    exact hp k hk hn
  · intro k hk hn h1 hi0
    have := par_lt hk
    have hpi := par_lt hi0
    rw [hb k (by omega), hb (par i) (by omega)]
    have e := hp k hk hn
    rw [h1] at e
    exact h.trans _ _ _ (hp i hi0 hi) e
/-- One more behind a heap. -/
theorem hp_push {a : Nat → α} {n : Nat} (hp : Hp le a n) : Up le a (n + 1) n := by
  refine ⟨⟨?_, ?_⟩, ?_⟩
  · intro k hk hn h1 _
    exact hp k hk (by omega)
  · intro k hk hn h1 _
    have := par_lt hk; omega
  · intro k hk hn h1
    have := par_lt hk; omega
/-- The last in the place of one, and cut off. -/
theorem hp_cut (h : Tot le) {a : Nat → α} {n i : Nat} (hp : Hp le a (n + 1)) (hi : i < n) : Mid le (sw a i n) n i := by
  refine ⟨?_, ?_⟩
  · intro k hk hn h1 h2
    have := par_lt hk
    rw [sw_far a h1 (by omega), sw_far a h2 (by omega)]
    exact hp k hk (by omega)
  · intro k hk hn h1 hi0
    have := par_lt hk
    have hpi := par_lt hi0
    rw [sw_far a (k := k) (by omega) (by omega), sw_far a (k := par i) (by omega) (by omega)]
    have e := hp k hk (by omega)
    rw [h1] at e
    exact h.trans _ _ _ (hp i hi0 (by omega)) e
theorem mid_zero {a : Nat → α} {n : Nat} (hm : Mid le a n 0) : Dn le a n 0 := ⟨hm, fun h => by omega⟩
end
end Go.Proofs.YtnkdhipeklphaaaDoor
