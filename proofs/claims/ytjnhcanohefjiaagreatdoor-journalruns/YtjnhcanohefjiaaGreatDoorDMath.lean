/- A device of sectors that can crash, plainly: what is safe, what is pending, what a restart leaves. -/
import Derived.WalkKit
namespace Go.Proofs.YtjnhcanohefjiaaGreatDoor

/-- Where a sector lies. -/
abbrev Pl := Int × Int
/-- What a sector holds. -/
abbrev Ct := List Nat
abbrev ltP (a b : Pl) : Prop := a.1 < b.1 ∨ (a.1 = b.1 ∧ a.2 < b.2)
theorem ltP_irrefl (a : Pl) : ¬ ltP a a := by unfold ltP; omega
theorem ltP_trans {a b c : Pl} (h : ltP a b) (k : ltP b c) : ltP a c := by unfold ltP at *; omega
theorem ltP_total (a b : Pl) : ltP a b ∨ a = b ∨ ltP b a := by
  rcases a with ⟨a1, a2⟩; rcases b with ⟨b1, b2⟩
  simp only [ltP, Prod.mk.injEq]
  omega
theorem ltP_ne {a b : Pl} (h : ltP a b) : a ≠ b := fun e => ltP_irrefl b (e ▸ h)
def okC (c : Ct) : Prop := c.length = 64 ∧ ∀ x ∈ c, x < 256
def zeroC : Ct := List.replicate 64 0
def fillC (xs : List Nat) : Ct := xs ++ List.replicate (64 - xs.length) 0
def tornC (a b : Ct) : Ct := a.take 32 ++ b.drop 32
def chosenC (n : Int) (a b : Ct) : Ct := if n = 1 then a else if n = 2 then tornC a b else b
theorem okC_zero : okC zeroC := ⟨by simp [zeroC], fun x hx => by simp [zeroC] at hx; omega⟩
theorem okC_fill {xs : List Nat} (h : xs.length ≤ 64) (hx : ∀ x ∈ xs, x < 256) : okC (fillC xs) := by
  refine ⟨by simp [fillC]; omega, fun x h => ?_⟩
  rcases List.mem_append.1 h with h | h
  · exact hx x h
  · simp at h; omega
theorem okC_torn {a b : Ct} (ha : okC a) (hb : okC b) : okC (tornC a b) := by
  refine ⟨by simp [tornC, ha.1, hb.1], fun x h => ?_⟩
  rcases List.mem_append.1 h with h | h
  · exact ha.2 x (List.mem_of_mem_take h)
  · exact hb.2 x (List.mem_of_mem_drop h)
theorem okC_chosen {n : Int} {a b : Ct} (ha : okC a) (hb : okC b) : okC (chosenC n a b) := by
  unfold chosenC
  split
  · exact ha
  · split
    · exact okC_torn ha hb
    · exact hb
/-- What stands at a place. -/
def getP (l : List (Pl × Ct)) (k : Pl) : Option Ct := (l.find? (fun p => decide (p.1 = k))).map (·.2)
/-- One put among them, in order. -/
def putP : List (Pl × Ct) → Pl → Ct → List (Pl × Ct)
  | [], k, c => [(k, c)]
  | x :: r, k, c => if ltP k x.1 then (k, c) :: x :: r else if k = x.1 then (k, c) :: r else x :: putP r k c
def SrtP (l : List (Pl × Ct)) : Prop := l.Pairwise (fun a b => ltP a.1 b.1)
theorem getP_nil (k : Pl) : getP [] k = none := rfl
theorem getP_cons (x : Pl × Ct) (r : List (Pl × Ct)) (k : Pl) : getP (x :: r) k = if x.1 = k then some x.2 else getP r k := by
  unfold getP
  by_cases h : x.1 = k <;> simp [h]
theorem getP_put_same : ∀ (l : List (Pl × Ct)) (k : Pl) (c : Ct), getP (putP l k c) k = some c
  | [], k, c => by simp [putP, getP_cons]
  | x :: r, k, c => by
    unfold putP
    split
    · simp [getP_cons]
    · split
      · simp [getP_cons]
      · rename_i h1 h2
        rw [getP_cons, if_neg (fun e => h2 e.symm), getP_put_same r k c]
theorem getP_put_other : ∀ (l : List (Pl × Ct)) (k k' : Pl) (c : Ct), k' ≠ k → getP (putP l k c) k' = getP l k'
  | [], k, k', c, h => by simp [putP, getP_cons, getP_nil, Ne.symm h]
  | x :: r, k, k', c, h => by
    unfold putP
    split
    · rw [getP_cons, if_neg (Ne.symm h)]
    · split
      · rename_i h1 h2
        rw [getP_cons, getP_cons, if_neg (Ne.symm h), if_neg (by rw [← h2]; exact Ne.symm h)]
      · rw [getP_cons, getP_cons, getP_put_other r k k' c h]
theorem mem_put : ∀ (l : List (Pl × Ct)) (k : Pl) (c : Ct) (x : Pl × Ct), x ∈ putP l k c → x = (k, c) ∨ x ∈ l
  | [], k, c, x, h => by simp [putP] at h; exact .inl h
  | y :: r, k, c, x, h => by
    unfold putP at h
    split at h
    · rcases List.mem_cons.1 h with h | h
      · exact .inl h
      · exact .inr h
    · split at h
      · rcases List.mem_cons.1 h with h | h
        · exact .inl h
        · exact .inr (List.mem_cons_of_mem _ h)
      · rcases List.mem_cons.1 h with h | h
        · exact .inr (by rw [h]; exact List.mem_cons_self)
        · rcases mem_put r k c x h with h | h
          · exact .inl h
          · exact .inr (List.mem_cons_of_mem _ h)
theorem length_put : ∀ (l : List (Pl × Ct)) (k : Pl) (c : Ct), (putP l k c).length ≤ l.length + 1
  | [], k, c => by simp [putP]
  | y :: r, k, c => by
    unfold putP
    split
    · simp
    · split
      · simp
      · have := length_put r k c
        simp; omega
theorem srt_put : ∀ (l : List (Pl × Ct)) (k : Pl) (c : Ct), SrtP l → SrtP (putP l k c)
  | [], k, c, _ => by simp [putP, SrtP]
  | y :: r, k, c, h => by
    obtain ⟨h1, h2⟩ := List.pairwise_cons.1 h
    unfold putP
    split
    · rename_i hk
      refine List.pairwise_cons.2 ⟨fun q hq => ?_, h⟩
      rcases List.mem_cons.1 hq with rfl | hq
      · exact hk
      · exact ltP_trans hk (h1 q hq)
    · split
      · rename_i hk
        refine List.pairwise_cons.2 ⟨fun q hq => ?_, h2⟩
        show ltP k q.1
        rw [hk]; exact h1 q hq
      · rename_i h3 h4
        refine List.pairwise_cons.2 ⟨fun q hq => ?_, srt_put r k c h2⟩
        rcases mem_put r k c q hq with rfl | hq
        · rcases ltP_total k y.1 with h | h | h
          · exact absurd h h3
          · exact absurd h h4
          · exact h
        · exact h1 q hq
theorem getP_mem : ∀ {l : List (Pl × Ct)} {k : Pl} {c : Ct}, getP l k = some c → (k, c) ∈ l
  | x :: r, k, c, h => by
    rw [getP_cons] at h
    split at h
    · rename_i e
      cases h
      rw [← e]; exact List.mem_cons_self
    · exact List.mem_cons_of_mem _ (getP_mem h)
theorem getP_of_mem : ∀ {l : List (Pl × Ct)} {k : Pl} {c : Ct}, SrtP l → (k, c) ∈ l → getP l k = some c
  | x :: r, k, c, hs, h => by
    obtain ⟨h1, h2⟩ := List.pairwise_cons.1 hs
    rw [getP_cons]
    rcases List.mem_cons.1 h with e | h
    · rw [← e]; simp
    · rw [if_neg (fun e => ltP_irrefl k (by have := h1 _ h; rwa [e] at this)), getP_of_mem h2 h]
theorem getP_filter (f : Pl → Bool) : ∀ (l : List (Pl × Ct)) (k : Pl), getP (l.filter (fun x => f x.1)) k = if f k then getP l k else none
  | [], k => by simp [getP_nil]
  | x :: r, k => by
    have ih := getP_filter f r k
    rw [List.filter_cons]
    cases hf : f x.1
    · rw [if_neg (by simp), ih, getP_cons]
      by_cases e : x.1 = k
      · rw [← e, hf]; simp
      · rw [if_neg e]
    · rw [if_pos rfl, getP_cons, getP_cons, ih]
      by_cases e : x.1 = k
      · rw [← e, hf]; simp
      · rw [if_neg e, if_neg e]
theorem srt_filter {l : List (Pl × Ct)} (f : Pl × Ct → Bool) (h : SrtP l) : SrtP (l.filter f) := List.Pairwise.filter f h
/-- A device. -/
structure Dev where
  r : Int
  s : Int
  safe : Pl → Ct
  pend : List (Pl × Ct)
  armed : Bool
  left : Int
  crashed : Bool
def updC (f : Pl → Ct) (k : Pl) (c : Ct) : Pl → Ct := fun x => if x = k then c else f x
abbrev hasD (d : Dev) (k : Pl) : Prop := 0 ≤ k.1 ∧ k.1 < d.r ∧ 0 ≤ k.2 ∧ k.2 < d.s
def newD (r s : Int) : Dev := ⟨r, s, fun _ => zeroC, [], false, 0, false⟩
/-- A write that comes to be: the sector pending, one of those that go well taken off. -/
def doneD (d : Dev) (k : Pl) (c : Ct) : Dev :=
  { d with pend := putP d.pend k c, left := if d.armed = true ∧ d.left ≠ 0 then d.left - 1 else d.left, crashed := d.crashed || (d.armed && decide (d.left = 0)) }
def wErr (d : Dev) (k : Pl) (n : Nat) : Nat :=
  if ¬ hasD d k then 1 else if 64 < n then 2 else if d.crashed = true then 60 else if d.armed = true ∧ d.left = 0 then 60 else 0
def writeD (d : Dev) (k : Pl) (xs : List Nat) : Dev := if ¬ hasD d k ∨ 64 < xs.length ∨ d.crashed = true then d else doneD d k (fillC xs)
def rErr (d : Dev) (k : Pl) : Nat := if ¬ hasD d k then 1 else if d.crashed = true then 60 else 0
def readD (d : Dev) (k : Pl) : Ct := (getP d.pend k).getD (d.safe k)
def sErr (d : Dev) (g : Int) : Nat := if ¬ (0 ≤ g ∧ g < d.r) then 1 else if d.crashed = true then 60 else 0
def syncedD (d : Dev) (g : Int) : Dev :=
  { d with safe := fun k => if k.1 = g then (getP d.pend k).getD (d.safe k) else d.safe k, pend := d.pend.filter (fun x => decide (x.1.1 ≠ g)) }
def syncD (d : Dev) (g : Int) : Dev := if sErr d g = 0 then syncedD d g else d
/-- What is safe when those that are pending were chosen for. -/
def goR (f : Pl → Ct) : List (Pl × Ct) → List Int → (Pl → Ct)
  | x :: r, n :: ns => goR (updC f x.1 (chosenC n x.2 (f x.1))) r ns
  | _, _ => f
def restartD (d : Dev) (ns : List Int) : Dev := { d with safe := goR d.safe d.pend ns, pend := [], armed := false, left := 0, crashed := false }
def pendD (d : Dev) (g : Int) : List Int := (d.pend.filter (fun x => decide (x.1.1 = g))).map (·.1.2)
theorem goR_append : ∀ (l₁ : List (Pl × Ct)) (n₁ : List Int) (f : Pl → Ct) (l₂ : List (Pl × Ct)) (n₂ : List Int), l₁.length = n₁.length → goR f (l₁ ++ l₂) (n₁ ++ n₂) = goR (goR f l₁ n₁) l₂ n₂
  | [], [], f, l₂, n₂, _ => by simp [goR]
  | x :: r, n :: ns, f, l₂, n₂, h => by
    simp only [List.cons_append, goR]
    exact goR_append r ns _ l₂ n₂ (by simpa using h)
theorem goR_done (f : Pl → Ct) (l : List (Pl × Ct)) (ns : List Int) (i : Nat) (h : i = l.length ∨ i = ns.length) : goR f (l.take i) (ns.take i) = goR f l ns := by
  induction l generalizing f ns i with
  | nil => simp [goR]
  | cons x r ih =>
    cases ns with
    | nil => simp [goR]
    | cons n ns =>
      cases i with
      | zero => simp at h
      | succ i =>
        simp only [List.take_succ_cons, goR]
        exact ih _ ns i (by simpa using h)
theorem goR_step (f : Pl → Ct) (l : List (Pl × Ct)) (ns : List Int) (i : Nat) (x : Pl × Ct) (n : Int) (hx : l[i]? = some x) (hn : ns[i]? = some n) :
    goR f (l.take (i + 1)) (ns.take (i + 1)) = updC (goR f (l.take i) (ns.take i)) x.1 (chosenC n x.2 (goR f (l.take i) (ns.take i) x.1)) := by
  obtain ⟨h1, e1⟩ := List.getElem?_eq_some_iff.1 hx
  obtain ⟨h2, e2⟩ := List.getElem?_eq_some_iff.1 hn
  rw [List.take_succ_eq_append_getElem h1, List.take_succ_eq_append_getElem h2, goR_append _ _ _ _ _ (by simp; omega), e1, e2]
  rfl
theorem goR_other : ∀ (l : List (Pl × Ct)) (ns : List Int) (f : Pl → Ct) (k : Pl), getP l k = none → goR f l ns k = f k
  | [], _, f, k, _ => rfl
  | x :: r, [], f, k, _ => rfl
  | x :: r, n :: ns, f, k, h => by
    rw [getP_cons] at h
    split at h
    · cases h
    · rename_i hne
      simp only [goR]
      rw [goR_other r ns _ k h]
      simp [updC, Ne.symm hne]
theorem okC_goR : ∀ (l : List (Pl × Ct)) (ns : List Int) (f : Pl → Ct), (∀ x ∈ l, okC x.2) → (∀ k, okC (f k)) → ∀ k, okC (goR f l ns k)
  | [], _, f, _, hf, k => hf k
  | x :: r, [], f, _, hf, k => hf k
  | x :: r, n :: ns, f, hl, hf, k => by
    refine okC_goR r ns _ (fun y hy => hl y (List.mem_cons_of_mem _ hy)) (fun j => ?_) k
    unfold updC
    split
    · exact okC_chosen (hl x List.mem_cons_self) (hf _)
    · exact hf j
/-- All that a device holds are sectors. -/
structure okD (d : Dev) : Prop where
  srt : SrtP d.pend
  pend : ∀ x ∈ d.pend, okC x.2
  safe : ∀ k, okC (d.safe k)
  wid : ∀ x ∈ d.pend, hasD d x.1
theorem okD_new (r s : Int) : okD (newD r s) := ⟨List.Pairwise.nil, fun x hx => by simp [newD] at hx, fun _ => okC_zero, fun x hx => by simp [newD] at hx⟩
theorem okD_done {d : Dev} {k : Pl} {c : Ct} (h : okD d) (hk : hasD d k) (hc : okC c) : okD (doneD d k c) := by
  refine ⟨srt_put _ _ _ h.srt, fun x hx => ?_, h.safe, fun x hx => ?_⟩
  · rcases mem_put _ _ _ _ hx with rfl | hx
    · exact hc
    · exact h.pend x hx
  · rcases mem_put _ _ _ _ hx with rfl | hx
    · exact hk
    · exact h.wid x hx
theorem okD_write {d : Dev} {k : Pl} {xs : List Nat} (h : okD d) (hx : ∀ x ∈ xs, x < 256) : okD (writeD d k xs) := by
  unfold writeD
  split
  · exact h
  · rename_i hn
    simp only [not_or, Decidable.not_not] at hn
    exact okD_done h hn.1 (okC_fill (by omega) hx)
theorem okC_read {d : Dev} (h : okD d) (k : Pl) : okC (readD d k) := by
  unfold readD
  cases hg : getP d.pend k with
  | none => exact h.safe k
  | some c => exact h.pend _ (getP_mem hg)
theorem okD_synced {d : Dev} (h : okD d) (g : Int) : okD (syncedD d g) := by
  refine ⟨srt_filter _ h.srt, fun x hx => h.pend x (List.mem_filter.1 hx).1, fun k => ?_, fun x hx => h.wid x (List.mem_filter.1 hx).1⟩
  show okC (if k.1 = g then (getP d.pend k).getD (d.safe k) else d.safe k)
  split
  · exact okC_read h k
  · exact h.safe k
theorem okD_sync {d : Dev} (h : okD d) (g : Int) : okD (syncD d g) := by
  unfold syncD
  split
  · exact okD_synced h g
  · exact h
theorem okD_restart {d : Dev} (h : okD d) (ns : List Int) : okD (restartD d ns) :=
  ⟨List.Pairwise.nil, fun x hx => by simp [restartD] at hx, okC_goR _ _ _ h.pend h.safe, fun x hx => by simp [restartD] at hx⟩
end Go.Proofs.YtjnhcanohefjiaaGreatDoor
