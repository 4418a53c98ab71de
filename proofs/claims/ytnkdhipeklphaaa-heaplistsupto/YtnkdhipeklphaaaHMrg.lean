/- Plain facts on lists that are merged: again and again the least of those that stand first. No program is in it. -/
import Derived.Test.YtnkdhipeklphaaaHLine
namespace Go.Proofs.Ytnkdhipeklphaaa

/-- A text ahead of another one, of the same ones that of the earlier list. -/
def Ahead (s : ByteArray) (i : Nat) (s' : ByteArray) (j : Nat) : Prop := Op.bytesLess s.toList s'.toList = true ∨ (s.toList = s'.toList ∧ i ≤ j)
/-- One list is told anew. -/
def updF {α : Type} (cur : Nat → α) (i : Nat) (t : α) : Nat → α := fun k => if k = i then t else cur k
theorem updF_at {α : Type} (cur : Nat → α) (i : Nat) (t : α) : updF cur i t i = t := by simp [updF]
theorem updF_old {α : Type} {cur : Nat → α} {i k : Nat} {t : α} (h : k ≠ i) : updF cur i t k = cur k := by simp [updF, h]
/-- What lists merged are: nothing, where all are empty; else a head that is ahead of the others, and then what the rest is. -/
def Mg (n : Nat) : (Nat → List ByteArray) → List ByteArray → Prop
  | cur, [] => ∀ i, i < n → cur i = []
  | cur, s :: out => ∃ i t, i < n ∧ cur i = s :: t ∧ (∀ j s' t', j < n → cur j = s' :: t' → Ahead s i s' j) ∧ Mg n (updF cur i t) out
theorem Mg.done {n : Nat} {cur : Nat → List ByteArray} (h : ∀ i, i < n → cur i = []) : Mg n cur [] := h
theorem Mg.step {n : Nat} {cur : Nat → List ByteArray} {i : Nat} {s : ByteArray} {t out : List ByteArray} (hi : i < n) (e : cur i = s :: t) (hm : ∀ j s' t', j < n → cur j = s' :: t' → Ahead s i s' j) (h : Mg n (updF cur i t) out) : Mg n cur (s :: out) := ⟨i, t, hi, e, hm, h⟩
theorem ahead_anti {s s' : ByteArray} {i j : Nat} (h : Ahead s i s' j) (h' : Ahead s' j s i) : i = j := by
  rcases h with h | ⟨e, h⟩ <;> rcases h' with h' | ⟨e', h'⟩
  · rw [less_asymm h] at h'; cases h'
  · rw [e', less_irrefl] at h; cases h
  · rw [e, less_irrefl] at h'; cases h'
  · omega
theorem Mg.one {n : Nat} : ∀ {cur : Nat → List ByteArray} {o o' : List ByteArray}, Mg n cur o → Mg n cur o' → o = o' := by
  intro cur o
  induction o generalizing cur with
  | nil =>
    intro o' h h'
    cases o' with
    | nil => rfl
    | cons s' out' =>
      obtain ⟨i, t, hi, e, _⟩ := h'
      rw [h i hi] at e; cases e
  | cons s out ih =>
    intro o' h h'
    obtain ⟨i, t, hi, e, hm, h1⟩ := h
    cases o' with
    | nil => rw [h' i hi] at e; cases e
    | cons s' out' =>
      obtain ⟨i', t', hi', e', hm', h2⟩ := h'
      have hij := ahead_anti (hm _ _ _ hi' e') (hm' _ _ _ hi e)
      subst hij
      rw [e] at e'
      cases e'
      rw [ih h1 h2]
theorem Mg.congr {n : Nat} {cur : Nat → List ByteArray} {o : List ByteArray} (h : Mg n cur o) : ∀ {cur' : Nat → List ByteArray}, (∀ i, i < n → cur' i = cur i) → Mg n cur' o := by
  induction o generalizing cur with
  | nil => intro cur' e; exact Mg.done fun i hi => by rw [e i hi]; exact h i hi
  | cons s out ih =>
    intro cur' ee
    obtain ⟨i, t, hi, e, hm, h1⟩ := h
    refine Mg.step hi ((ee _ hi).trans e) (fun j s' t' hj ej => hm j s' t' hj ((ee j hj).symm.trans ej)) (ih h1 fun k hk => ?_)
    unfold updF
    split
    · rfl
    · exact ee k hk
/-- The heads of lists, in order. -/
def HD (n : Nat) (cur : Nat → List ByteArray) (r : List Sl) : Prop := Srt r ∧ ∀ x, x ∈ r ↔ ∃ i s t, i < n ∧ cur i = s :: t ∧ x = txS i s
theorem txS_inj {i j : Nat} {s s' : ByteArray} (h : txS i s = txS j s') : i = j ∧ s = s' := by
  unfold txS at h
  simp only [Sl.mk.injEq] at h
  exact ⟨by omega, h.2.2.1⟩
theorem HD.first {n : Nat} {cur : Nat → List ByteArray} {x : Sl} {r : List Sl} (h : HD n cur (x :: r)) : ∃ i s t, i < n ∧ cur i = s :: t ∧ x = txS i s ∧ ∀ j s' t', j < n → cur j = s' :: t' → Ahead s i s' j := by
  obtain ⟨i, s, t, hi, e, hx⟩ := (h.2 x).1 (by simp)
  refine ⟨i, s, t, hi, e, hx, fun j s' t' hj ej => ?_⟩
  have hm : txS j s' ∈ x :: r := (h.2 _).2 ⟨j, s', t', hj, ej, rfl⟩
  rcases List.mem_cons.1 hm with e' | hm
  · rw [hx] at e'
    obtain ⟨rfl, rfl⟩ := txS_inj e'
    exact .inr ⟨rfl, Nat.le_refl _⟩
  · have := (List.pairwise_cons.1 h.1).1 _ hm
    rw [hx, klt_rank (by rfl)] at this
    rcases this with h1 | ⟨h1, h2⟩
    · exact .inl h1
    · refine .inr ⟨h1, ?_⟩
      simp only [txS] at h2
      omega
theorem HD.turn {n : Nat} {cur : Nat → List ByteArray} {i : Nat} {s : ByteArray} {r : List Sl} (h : HD n cur (txS i s :: r)) (s2 : ByteArray) : ∀ y ∈ r, y.turn ≠ (txS i s2).turn := by
  intro y hy e
  obtain ⟨j, s', t', hj, ej, rfl⟩ := (h.2 y).1 (by simp [hy])
  obtain ⟨i', s1, t1, hi', ei', hx⟩ := (h.2 (txS i s)).1 (by simp)
  simp only [txS] at e
  have hij : j = i := by omega
  subst hij
  obtain ⟨rfl, rfl⟩ := txS_inj hx
  rw [ej] at ei'
  cases ei'
  exact klt_irr _ ((List.pairwise_cons.1 h.1).1 _ hy)
theorem HD.rest {n : Nat} {cur : Nat → List ByteArray} {i : Nat} {s : ByteArray} {r : List Sl} (h : HD n cur (txS i s :: r)) : ∀ x, x ∈ r ↔ ∃ j s' t', j < n ∧ j ≠ i ∧ cur j = s' :: t' ∧ x = txS j s' := by
  intro x
  have ht := h.turn s
  constructor
  · intro hx
    obtain ⟨j, s', t', hj, ej, rfl⟩ := (h.2 x).1 (by simp [hx])
    exact ⟨j, s', t', hj, fun e => ht _ hx (by rw [e]; rfl), ej, rfl⟩
  · rintro ⟨j, s', t', hj, hne, ej, rfl⟩
    rcases List.mem_cons.1 ((h.2 _).2 ⟨j, s', t', hj, ej, rfl⟩) with e | hm
    · exact absurd (txS_inj e).1 hne
    · exact hm
/-- The first one is taken off, and its list has no more. -/
theorem HD.off {n : Nat} {cur : Nat → List ByteArray} {i : Nat} {s : ByteArray} {r : List Sl} (h : HD n cur (txS i s :: r)) : HD n (updF cur i []) r := by
  refine ⟨(List.pairwise_cons.1 h.1).2, fun x => ?_⟩
  rw [h.rest]
  constructor
  · rintro ⟨j, s', t', hj, hne, ej, rfl⟩
    exact ⟨j, s', t', hj, by rw [updF_old hne]; exact ej, rfl⟩
  · rintro ⟨j, s', t', hj, ej, rfl⟩
    by_cases e : j = i
    · subst e; rw [updF_at] at ej; cases ej
    · exact ⟨j, s', t', hj, e, by rw [updF_old e] at ej; exact ej, rfl⟩
/-- .. and another one of its list stands there. -/
theorem HD.next {n : Nat} {cur : Nat → List ByteArray} {i : Nat} {s s2 : ByteArray} {t : List ByteArray} {r : List Sl} (hi : i < n) (h : HD n cur (txS i s :: r)) : HD n (updF cur i (s2 :: t)) (ins (txS i s2) r) := by
  refine ⟨srt_ins r (List.pairwise_cons.1 h.1).2 (h.turn s2), fun x => ?_⟩
  rw [mem_ins, h.rest]
  constructor
  · rintro (rfl | ⟨j, s', t', hj, hne, ej, rfl⟩)
    · exact ⟨i, s2, t, hi, updF_at _ _ _, rfl⟩
    · exact ⟨j, s', t', hj, by rw [updF_old hne]; exact ej, rfl⟩
  · rintro ⟨j, s', t', hj, ej, rfl⟩
    by_cases e : j = i
    · subst e; rw [updF_at] at ej; cases ej; exact .inl rfl
    · exact .inr ⟨j, s', t', hj, e, by rw [updF_old e] at ej; exact ej, rfl⟩
theorem HD.none {n : Nat} {cur : Nat → List ByteArray} (h : HD n cur []) : ∀ i, i < n → cur i = [] := by
  intro i hi
  cases e : cur i with
  | nil => rfl
  | cons s t => have := (h.2 (txS i s)).2 ⟨i, s, t, hi, e, rfl⟩; simp at this
theorem hd_zero (cur : Nat → List ByteArray) : HD 0 cur [] := ⟨List.Pairwise.nil, fun x => ⟨fun h => by simp at h, fun ⟨i, _, _, hi, _⟩ => by omega⟩⟩
theorem hd_skip {n : Nat} {cur : Nat → List ByteArray} {r : List Sl} (h : HD n cur r) (e : cur n = []) : HD (n + 1) cur r := by
  refine ⟨h.1, fun x => ?_⟩
  rw [h.2]
  constructor
  · rintro ⟨i, s, t, hi, k⟩; exact ⟨i, s, t, by omega, k⟩
  · rintro ⟨i, s, t, hi, k1, k2⟩
    by_cases hn : i = n
    · subst hn; rw [e] at k1; cases k1
    · exact ⟨i, s, t, by omega, k1, k2⟩
theorem hd_more {n : Nat} {cur : Nat → List ByteArray} {r : List Sl} {s : ByteArray} {t : List ByteArray} (h : HD n cur r) (e : cur n = s :: t) : HD (n + 1) cur (ins (txS n s) r) ∧ ∀ y ∈ r, y.turn ≠ (txS n s).turn := by
  have ht : ∀ y ∈ r, y.turn ≠ (txS n s).turn := fun y hy => by
    obtain ⟨i, s', t', hi, _, rfl⟩ := (h.2 y).1 hy
    simp only [txS]; omega
  refine ⟨⟨srt_ins r h.1 ht, fun x => ?_⟩, ht⟩
  rw [mem_ins, h.2]
  constructor
  · rintro (rfl | ⟨i, s', t', hi, k⟩)
    · exact ⟨n, s, t, by omega, e, rfl⟩
    · exact ⟨i, s', t', by omega, k⟩
  · rintro ⟨i, s', t', hi, k1, rfl⟩
    by_cases hn : i = n
    · subst hn; rw [e] at k1; cases k1; exact .inl rfl
    · exact .inr ⟨i, s', t', by omega, k1, rfl⟩
/-- How many texts there are. -/
def tot (cur : Nat → List ByteArray) : Nat → Nat
  | 0 => 0
  | n + 1 => tot cur n + (cur n).length
theorem tot_upd {cur : Nat → List ByteArray} {i : Nat} {s : ByteArray} {t : List ByteArray} (e : cur i = s :: t) : ∀ {n : Nat}, i < n → tot (updF cur i t) n + 1 = tot cur n
  | 0, h => by omega
  | n + 1, h => by
    unfold tot
    by_cases hn : i = n
    · subst hn
      rw [updF_at, e, List.length_cons]
      have : ∀ m, m ≤ i → tot (updF cur i t) m = tot cur m := by
        intro m
        induction m with
        | zero => intro _; rfl
        | succ m ih => intro hm; unfold tot; rw [ih (by omega), updF_old (by omega)]
      rw [this i (Nat.le_refl _)]; omega
    · rw [updF_old (fun e' => hn e'.symm)]
      have := tot_upd e (n := n) (by omega)
      omega
/-- In order, and cut in two: merged it is whole again. -/
theorem mg_cut {a b : List ByteArray} : ∀ {cur : Nat → List ByteArray}, (a ++ b).Pairwise (fun s s' => Op.bytesLess s'.toList s.toList = false) → cur 0 = a → cur 1 = b → cur 2 = [] → Mg 3 cur (a ++ b) := by
  induction a with
  | nil =>
    induction b with
    | nil =>
      intro cur _ h0 h1 h2
      refine Mg.done fun i hi => ?_
      rcases (by omega : i = 0 ∨ i = 1 ∨ i = 2) with rfl | rfl | rfl <;> assumption
    | cons y b ih =>
      intro cur hp h0 h1 h2
      refine Mg.step (i := 1) (by omega) h1 (fun j s' t' hj ej => ?_) (ih (List.pairwise_cons.1 hp).2 (by rw [updF_old (by omega)]; exact h0) (updF_at _ _ _) (by rw [updF_old (by omega)]; exact h2))
      rcases (by omega : j = 0 ∨ j = 1 ∨ j = 2) with rfl | rfl | rfl
      · rw [h0] at ej; cases ej
      · rw [h1] at ej; cases ej; exact .inr ⟨rfl, Nat.le_refl _⟩
      · rw [h2] at ej; cases ej
  | cons x a ih =>
    intro cur hp h0 h1 h2
    have hx := (List.pairwise_cons.1 hp).1
    refine Mg.step (i := 0) (by omega) h0 (fun j s' t' hj ej => ?_) (ih (List.pairwise_cons.1 hp).2 (updF_at _ _ _) (by rw [updF_old (by omega)]; exact h1) (by rw [updF_old (by omega)]; exact h2))
    rcases (by omega : j = 0 ∨ j = 1 ∨ j = 2) with rfl | rfl | rfl
    · rw [h0] at ej; cases ej; exact .inr ⟨rfl, Nat.le_refl _⟩
    · rw [h1] at ej
      have := hx s' (by rw [ej]; simp)
      by_cases hl : Op.bytesLess x.toList s'.toList = true
      · exact .inl hl
      · exact .inr ⟨less_total _ _ (by simpa using hl) this, by omega⟩
    · rw [h2] at ej; cases ej
end Go.Proofs.Ytnkdhipeklphaaa
