/- A device of sectors that can crash, plainly: what is safe, what is pending, what a restart leaves; A text kept twice, plainly: what a half holds, what is told, what is laid and written, what a crash leaves; Texts saved one behind the other, and a crash meanwhile, plainly; A journal's area on a device, plainly: what is cleaned and written, and what a crash leaves; The document's device, plainly: a list of sectors in order; how it is tied to the device; An area cleaned as the document does it, whole sectors compared and written: where it begins with the row it is what the program does. -/
import Derived.WalkKit
import Derived.Test.YtjnhcanohefjiaaGreatDoorJPA
namespace Go.Proofs.YtjnhcanohefjiaaGreatDoor

/-- Where a sector lies. -/
abbrev Pl := Int × Int
/-- What a sector holds. -/
abbrev Ct := List Nat
abbrev ltP (a b : Pl) : Prop := a.1 < b.1 ∨ (a.1 = b.1 ∧ a.2 < b.2)
theorem ltP_irrefl (a : Pl) : ¬ ltP a a := by unfold ltP; omega
theorem ltP_trans {a b c : Pl} (h : ltP a b) (k : ltP b c) : ltP a c := by unfold ltP at *; omega
theorem ltP_total (a b : Pl) : ltP a b ∨ a = b ∨ ltP b a := by
  rcases a with ⟨a1, a2⟩; rcases b with ⟨b1, b2⟩
  simp only [ltP, Prod.mk.injEq]
  omega
theorem ltP_ne {a b : Pl} (h : ltP a b) : a ≠ b := fun e => ltP_irrefl b (e ▸ h)
def okC (c : Ct) : Prop := c.length = 64 ∧ ∀ x ∈ c, x < 256
def zeroC : Ct := List.replicate 64 0
def fillC (xs : List Nat) : Ct := xs ++ List.replicate (64 - xs.length) 0
def tornC (a b : Ct) : Ct := a.take 32 ++ b.drop 32
def chosenC (n : Int) (a b : Ct) : Ct := if n = 1 then a else if n = 2 then tornC a b else b
theorem okC_zero : okC zeroC := ⟨by simp [zeroC], fun x hx => by simp [zeroC] at hx; omega⟩
theorem okC_fill {xs : List Nat} (h : xs.length ≤ 64) (hx : ∀ x ∈ xs, x < 256) : okC (fillC xs) := by
  refine ⟨by simp [fillC]; omega, fun x h => ?_⟩
  rcases List.mem_append.1 h with h | h
  · exact hx x h
  · simp at h; omega
theorem okC_torn {a b : Ct} (ha : okC a) (hb : okC b) : okC (tornC a b) := by
  refine ⟨by simp [tornC, ha.1, hb.1], fun x h => ?_⟩
  rcases List.mem_append.1 h with h | h
  · exact ha.2 x (List.mem_of_mem_take h)
  · exact hb.2 x (List.mem_of_mem_drop h)
theorem okC_chosen {n : Int} {a b : Ct} (ha : okC a) (hb : okC b) : okC (chosenC n a b) := by
  unfold chosenC
  split
  · exact ha
  · split
    · exact okC_torn ha hb
    · exact hb
/-- What stands at a place. -/
def getP (l : List (Pl × Ct)) (k : Pl) : Option Ct := (l.find? (fun p => decide (p.1 = k))).map (·.2)
/-- One put among them, in order. -/
def putP : List (Pl × Ct) → Pl → Ct → List (Pl × Ct)
  | [], k, c => [(k, c)]
  | x :: r, k, c => if ltP k x.1 then (k, c) :: x :: r else if k = x.1 then (k, c) :: r else x :: putP r k c
def SrtP (l : List (Pl × Ct)) : Prop := l.Pairwise (fun a b => ltP a.1 b.1)
theorem getP_nil (k : Pl) : getP [] k = none := rfl
theorem getP_cons (x : Pl × Ct) (r : List (Pl × Ct)) (k : Pl) : getP (x :: r) k = if x.1 = k then some x.2 else getP r k := by
  unfold getP
  by_cases h : x.1 = k <;> simp [h]
theorem getP_put_same : ∀ (l : List (Pl × Ct)) (k : Pl) (c : Ct), getP (putP l k c) k = some c
  | [], k, c => by simp [putP, getP_cons]
  | x :: r, k, c => by
    unfold putP
    split
    · simp [getP_cons]
    · split
      · simp [getP_cons]
      · rename_i h1 h2
        rw [getP_cons, if_neg (fun e => h2 e.symm), getP_put_same r k c]
theorem getP_put_other : ∀ (l : List (Pl × Ct)) (k k' : Pl) (c : Ct), k' ≠ k → getP (putP l k c) k' = getP l k'
  | [], k, k', c, h => by simp [putP, getP_cons, getP_nil, Ne.symm h]
  | x :: r, k, k', c, h => by
    unfold putP
    split
    · rw [getP_cons, if_neg (Ne.symm h)]
    · split
      · rename_i h1 h2
        rw [getP_cons, getP_cons, if_neg (Ne.symm h), if_neg (by rw [← h2]; exact Ne.symm h)]
      · rw [getP_cons, getP_cons, getP_put_other r k k' c h]
theorem mem_put : ∀ (l : List (Pl × Ct)) (k : Pl) (c : Ct) (x : Pl × Ct), x ∈ putP l k c → x = (k, c) ∨ x ∈ l
  | [], k, c, x, h => by simp [putP] at h; exact .inl h
  | y :: r, k, c, x, h => by
    unfold putP at h
    split at h
    · rcases List.mem_cons.1 h with h | h
      · exact .inl h
      · exact .inr h
    · split at h
      · rcases List.mem_cons.1 h with h | h
        · exact .inl h
        · exact .inr (List.mem_cons_of_mem _ h)
      · rcases List.mem_cons.1 h with h | h
        · exact .inr (by rw [h]; exact List.mem_cons_self)
        · rcases mem_put r k c x h with h | h
          · exact .inl h
          · exact .inr (List.mem_cons_of_mem _ h)
theorem length_put : ∀ (l : List (Pl × Ct)) (k : Pl) (c : Ct), (putP l k c).length ≤ l.length + 1
  | [], k, c => by simp [putP]
  | y :: r, k, c => by
    unfold putP
    split
    · simp
    · split
      · simp
      · have := length_put r k c
        simp; omega
theorem srt_put : ∀ (l : List (Pl × Ct)) (k : Pl) (c : Ct), SrtP l → SrtP (putP l k c)
  | [], k, c, _ => by simp [putP, SrtP]
  | y :: r, k, c, h => by
    obtain ⟨h1, h2⟩ := List.pairwise_cons.1 h
    unfold putP
    split
    · rename_i hk
      refine List.pairwise_cons.2 ⟨fun q hq => ?_, h⟩
      rcases List.mem_cons.1 hq with rfl | hq
      · exact hk
      · exact ltP_trans hk (h1 q hq)
    · split
      · rename_i hk
        refine List.pairwise_cons.2 ⟨fun q hq => ?_, h2⟩
        show ltP k q.1
        rw [hk]; exact h1 q hq
      · rename_i h3 h4
        refine List.pairwise_cons.2 ⟨fun q hq => ?_, srt_put r k c h2⟩
        rcases mem_put r k c q hq with rfl | hq
        · rcases ltP_total k y.1 with h | h | h
          · exact absurd h h3
          · exact absurd h h4
          · exact h
        · exact h1 q hq
theorem getP_mem : ∀ {l : List (Pl × Ct)} {k : Pl} {c : Ct}, getP l k = some c → (k, c) ∈ l
  | x :: r, k, c, h => by
    rw [getP_cons] at h
    split at h
    · rename_i e
      cases h
      rw [← e]; exact List.mem_cons_self
    · exact List.mem_cons_of_mem _ (getP_mem h)
theorem getP_of_mem : ∀ {l : List (Pl × Ct)} {k : Pl} {c : Ct}, SrtP l → (k, c) ∈ l → getP l k = some c
  | x :: r, k, c, hs, h => by
    obtain ⟨h1, h2⟩ := List.pairwise_cons.1 hs
    rw [getP_cons]
    rcases List.mem_cons.1 h with e | h
    · rw [← e]; simp
    · rw [if_neg (fun e => ltP_irrefl k (by have := h1 _ h; rwa [e] at this)), getP_of_mem h2 h]
theorem getP_filter (f : Pl → Bool) : ∀ (l : List (Pl × Ct)) (k : Pl), getP (l.filter (fun x => f x.1)) k = if f k then getP l k else none
  | [], k => by simp [getP_nil]
  | x :: r, k => by
    have ih := getP_filter f r k
    rw [List.filter_cons]
    cases hf : f x.1
    · rw [if_neg (by simp), ih, getP_cons]
      by_cases e : x.1 = k
      · rw [← e, hf]; simp
      · rw [if_neg e]
    · rw [if_pos rfl, getP_cons, getP_cons, ih]
      by_cases e : x.1 = k
      · rw [← e, hf]; simp
      · rw [if_neg e, if_neg e]
theorem srt_filter {l : List (Pl × Ct)} (f : Pl × Ct → Bool) (h : SrtP l) : SrtP (l.filter f) := List.Pairwise.filter f h
/-- A device. -/
structure Dev where
  r : Int
  s : Int
  safe : Pl → Ct
  pend : List (Pl × Ct)
  armed : Bool
  left : Int
  crashed : Bool
def updC (f : Pl → Ct) (k : Pl) (c : Ct) : Pl → Ct := fun x => if x = k then c else f x
abbrev hasD (d : Dev) (k : Pl) : Prop := 0 ≤ k.1 ∧ k.1 < d.r ∧ 0 ≤ k.2 ∧ k.2 < d.s
def newD (r s : Int) : Dev := ⟨r, s, fun _ => zeroC, [], false, 0, false⟩
/-- A write that comes to be: the sector pending, one of those that go well taken off. -/
def doneD (d : Dev) (k : Pl) (c : Ct) : Dev :=
  { d with pend := putP d.pend k c, left := if d.armed = true ∧ d.left ≠ 0 then d.left - 1 else d.left, crashed := d.crashed || (d.armed && decide (d.left = 0)) }
def wErr (d : Dev) (k : Pl) (n : Nat) : Nat :=
  if ¬ hasD d k then 1 else if 64 < n then 2 else if d.crashed = true then 60 else if d.armed = true ∧ d.left = 0 then 60 else 0
def writeD (d : Dev) (k : Pl) (xs : List Nat) : Dev := if ¬ hasD d k ∨ 64 < xs.length ∨ d.crashed = true then d else doneD d k (fillC xs)
def rErr (d : Dev) (k : Pl) : Nat := if ¬ hasD d k then 1 else if d.crashed = true then 60 else 0
def readD (d : Dev) (k : Pl) : Ct := (getP d.pend k).getD (d.safe k)
def sErr (d : Dev) (g : Int) : Nat := if ¬ (0 ≤ g ∧ g < d.r) then 1 else if d.crashed = true then 60 else 0
def syncedD (d : Dev) (g : Int) : Dev :=
  { d with safe := fun k => if k.1 = g then (getP d.pend k).getD (d.safe k) else d.safe k, pend := d.pend.filter (fun x => decide (x.1.1 ≠ g)) }
def syncD (d : Dev) (g : Int) : Dev := if sErr d g = 0 then syncedD d g else d
/-- What is safe when those that are pending were chosen for. -/
def goR (f : Pl → Ct) : List (Pl × Ct) → List Int → (Pl → Ct)
  | x :: r, n :: ns => goR (updC f x.1 (chosenC n x.2 (f x.1))) r ns
  | _, _ => f
def restartD (d : Dev) (ns : List Int) : Dev := { d with safe := goR d.safe d.pend ns, pend := [], armed := false, left := 0, crashed := false }
theorem goR_append : ∀ (l₁ : List (Pl × Ct)) (n₁ : List Int) (f : Pl → Ct) (l₂ : List (Pl × Ct)) (n₂ : List Int), l₁.length = n₁.length → goR f (l₁ ++ l₂) (n₁ ++ n₂) = goR (goR f l₁ n₁) l₂ n₂
  | [], [], f, l₂, n₂, _ => by simp [goR]
  | x :: r, n :: ns, f, l₂, n₂, h => by
    simp only [List.cons_append, goR]
    exact goR_append r ns _ l₂ n₂ (by simpa using h)
theorem goR_done (f : Pl → Ct) (l : List (Pl × Ct)) (ns : List Int) (i : Nat) (h : i = l.length ∨ i = ns.length) : goR f (l.take i) (ns.take i) = goR f l ns := by
  induction l generalizing f ns i with
  | nil => simp [goR]
  | cons x r ih =>
    cases ns with
    | nil => simp [goR]
    | cons n ns =>
      cases i with
      | zero => simp at h
      | succ i =>
        simp only [List.take_succ_cons, goR]
        exact ih _ ns i (by simpa using h)
theorem goR_step (f : Pl → Ct) (l : List (Pl × Ct)) (ns : List Int) (i : Nat) (x : Pl × Ct) (n : Int) (hx : l[i]? = some x) (hn : ns[i]? = some n) :
    goR f (l.take (i + 1)) (ns.take (i + 1)) = updC (goR f (l.take i) (ns.take i)) x.1 (chosenC n x.2 (goR f (l.take i) (ns.take i) x.1)) := by
  obtain ⟨h1, e1⟩ := List.getElem?_eq_some_iff.1 hx
  obtain ⟨h2, e2⟩ := List.getElem?_eq_some_iff.1 hn
  rw [List.take_succ_eq_append_getElem h1, List.take_succ_eq_append_getElem h2, goR_append _ _ _ _ _ (by simp; omega), e1, e2]
  rfl
theorem goR_other : ∀ (l : List (Pl × Ct)) (ns : List Int) (f : Pl → Ct) (k : Pl), getP l k = none → goR f l ns k = f k
  | [], _, f, k, _ => rfl
  | x :: r, [], f, k, _ => rfl
  | x :: r, n :: ns, f, k, h => by
    rw [getP_cons] at h
    split at h
    · cases h
    · rename_i hne
      simp only [goR]
      rw [goR_other r ns _ k h]
      simp [updC, Ne.symm hne]
theorem okC_goR : ∀ (l : List (Pl × Ct)) (ns : List Int) (f : Pl → Ct), (∀ x ∈ l, okC x.2) → (∀ k, okC (f k)) → ∀ k, okC (goR f l ns k)
  | [], _, f, _, hf, k => hf k
  | x :: r, [], f, _, hf, k => hf k
  | x :: r, n :: ns, f, hl, hf, k => by
    refine okC_goR r ns _ (fun y hy => hl y (List.mem_cons_of_mem _ hy)) (fun j => ?_) k
    unfold updC
    split
    · exact okC_chosen (hl x List.mem_cons_self) (hf _)
    · exact hf j
/-- All that a device holds are sectors. -/
structure okD (d : Dev) : Prop where
  srt : SrtP d.pend
  pend : ∀ x ∈ d.pend, okC x.2
  safe : ∀ k, okC (d.safe k)
  wid : ∀ x ∈ d.pend, hasD d x.1
theorem okD_new (r s : Int) : okD (newD r s) := ⟨List.Pairwise.nil, fun x hx => by simp [newD] at hx, fun _ => okC_zero, fun x hx => by simp [newD] at hx⟩
theorem okD_done {d : Dev} {k : Pl} {c : Ct} (h : okD d) (hk : hasD d k) (hc : okC c) : okD (doneD d k c) := by
  refine ⟨srt_put _ _ _ h.srt, fun x hx => ?_, h.safe, fun x hx => ?_⟩
  · rcases mem_put _ _ _ _ hx with rfl | hx
    · exact hc
    · exact h.pend x hx
  · rcases mem_put _ _ _ _ hx with rfl | hx
    · exact hk
    · exact h.wid x hx
theorem okD_write {d : Dev} {k : Pl} {xs : List Nat} (h : okD d) (hx : ∀ x ∈ xs, x < 256) : okD (writeD d k xs) := by
  unfold writeD
  split
  · exact h
  · rename_i hn
    simp only [not_or, Decidable.not_not] at hn
    exact okD_done h hn.1 (okC_fill (by omega) hx)
theorem okC_read {d : Dev} (h : okD d) (k : Pl) : okC (readD d k) := by
  unfold readD
  cases hg : getP d.pend k with
  | none => exact h.safe k
  | some c => exact h.pend _ (getP_mem hg)
theorem okD_synced {d : Dev} (h : okD d) (g : Int) : okD (syncedD d g) := by
  refine ⟨srt_filter _ h.srt, fun x hx => h.pend x (List.mem_filter.1 hx).1, fun k => ?_, fun x hx => h.wid x (List.mem_filter.1 hx).1⟩
  show okC (if k.1 = g then (getP d.pend k).getD (d.safe k) else d.safe k)
  split
  · exact okC_read h k
  · exact h.safe k
theorem okD_restart {d : Dev} (h : okD d) (ns : List Int) : okD (restartD d ns) :=
  ⟨List.Pairwise.nil, fun x hx => by simp [restartD] at hx, okC_goR _ _ _ h.pend h.safe, fun x hx => by simp [restartD] at hx⟩
end Go.Proofs.YtjnhcanohefjiaaGreatDoor

namespace Go.Proofs.YtjnhcanohefjiaaGreatDoor

/-- Where a twin lies. -/
structure Ar where
  g : Int
  f : Int
  s : Int
/-- The bytes of sectors, one behind the other. -/
def secsB (d : Dev) (g f : Int) (n : Nat) : List Nat := ((List.range n).map fun (i : Nat) => readD d (g, f + i)).flatten
end Go.Proofs.YtjnhcanohefjiaaGreatDoor

namespace Go.Proofs.YtjnhcanohefjiaaGreatDoor

theorem secsB_snoc (d : Dev) (g f : Int) (n : Nat) : secsB d g f (n + 1) = secsB d g f n ++ readD d (g, f + n) := by
  unfold secsB
  rw [List.range_succ]
  simp
theorem secsB_len {d : Dev} (h : okD d) (g f : Int) (n : Nat) : (secsB d g f n).length = 64 * n := by
  induction n with
  | zero => rfl
  | succ n ih => rw [secsB_snoc, List.length_append, ih, (okC_read h _).1]; omega
theorem secsB_byte {d : Dev} (h : okD d) (g f : Int) (n : Nat) : ∀ x ∈ secsB d g f n, x < 256 := by
  induction n with
  | zero => intro x hx; simp [secsB] at hx
  | succ n ih =>
    rw [secsB_snoc]
    intro x hx
    rcases List.mem_append.1 hx with hx | hx
    · exact ih x hx
    · exact (okC_read h _).2 x hx
end Go.Proofs.YtjnhcanohefjiaaGreatDoor

namespace Go.Proofs.YtjnhcanohefjiaaGreatDoor

abbrev inJ (d : Dev) (a : Ar) : Prop := 0 ≤ a.g ∧ a.g < d.r ∧ 0 ≤ a.f ∧ 1 ≤ a.s ∧ a.s ≤ d.s ∧ a.f ≤ d.s - a.s
/-- An area's bytes; a row's part in a sector; where a sector lies. -/
def heldJ (d : Dev) (a : Ar) : List Nat := secsB d a.g a.f a.s.toNat
def partJ (xs : List Nat) (i : Nat) : List Nat := (xs.drop (64 * i)).take 64
def nought (xs : List Nat) : Bool := xs.all (fun x => decide (x = 0))
abbrev atJ (a : Ar) (i : Nat) : Pl := (a.g, a.f + (i : Int))
theorem inJ_has {d : Dev} {a : Ar} (h : inJ d a) {i : Nat} (hi : i < a.s.toNat) : hasD d (atJ a i) := by
  obtain ⟨h1, h2, h3, h4, h5, h6⟩ := h
  refine ⟨h1, h2, ?_, ?_⟩
  · show 0 ≤ a.f + (i : Int); omega
  · show a.f + (i : Int) < d.s; omega
theorem atJ_ne {a : Ar} {i j : Nat} (h : i ≠ j) : atJ a i ≠ atJ a j := by
  intro e
  simp only [atJ, Prod.mk.injEq, true_and] at e
  omega
theorem partJ_len (xs : List Nat) (i : Nat) : (partJ xs i).length = min 64 (xs.length - 64 * i) := by simp [partJ]
theorem partJ_le (xs : List Nat) (i : Nat) : (partJ xs i).length ≤ 64 := by rw [partJ_len]; omega
theorem partJ_byte {xs : List Nat} (h : ∀ x ∈ xs, x < 256) (i : Nat) : ∀ x ∈ partJ xs i, x < 256 := fun x hx => h x (List.mem_of_mem_drop (List.mem_of_mem_take hx))
theorem partJ_get (xs : List Nat) (i t : Nat) : (partJ xs i)[t]? = if t < 64 then xs[64 * i + t]? else none := by
  unfold partJ
  rw [List.getElem?_take]
  split
  · rw [List.getElem?_drop]
  · rfl
theorem fillC_get {xs : List Nat} (h : xs.length ≤ 64) (t : Nat) : (fillC xs)[t]? = if t < xs.length then xs[t]? else if t < 64 then some 0 else none := by
  unfold fillC
  rw [List.getElem?_append]
  split
  · rfl
  · rw [List.getElem?_replicate]
    by_cases h1 : t < 64
    · rw [if_pos (by omega), if_pos h1]
    · rw [if_neg (by omega), if_neg h1]
theorem fillC_get_lt {xs : List Nat} (h : xs.length ≤ 64) {t : Nat} (ht : t < xs.length) : (fillC xs)[t]? = xs[t]? := by rw [fillC_get h, if_pos ht]
theorem secsB_get {d : Dev} (h : okD d) (g f : Int) (n j : Nat) (hj : j < 64 * n) : (secsB d g f n)[j]? = (readD d (g, f + ((j / 64 : Nat) : Int)))[j % 64]? := by
  induction n with
  | zero => omega
  | succ n ih =>
    rw [secsB_snoc, List.getElem?_append, secsB_len h]
    by_cases h1 : j < 64 * n
    · rw [if_pos h1, ih h1]
    · rw [if_neg h1, show j / 64 = n by omega, show j - 64 * n = j % 64 by omega]
theorem held_get {d : Dev} (h : okD d) (a : Ar) (j : Nat) (hj : j < 64 * a.s.toNat) : (heldJ d a)[j]? = (readD d (atJ a (j / 64)))[j % 64]? := secsB_get h _ _ _ _ hj
theorem held_len {d : Dev} (h : okD d) (a : Ar) : (heldJ d a).length = 64 * a.s.toNat := secsB_len h _ _ _
theorem held_byte {d : Dev} (h : okD d) (a : Ar) : ∀ x ∈ heldJ d a, x < 256 := secsB_byte h _ _ _
/-- A row lies in an area, and noughts behind it. -/
def Lies (d : Dev) (a : Ar) (row : List Nat) : Prop := ∀ i : Nat, i < a.s.toNat → readD d (atJ a i) = fillC (partJ row i)
/-- An area begins with a row. -/
def Begins (d : Dev) (a : Ar) (row : List Nat) : Prop := ∀ i : Nat, i < a.s.toNat → (readD d (atJ a i)).take (partJ row i).length = partJ row i
theorem lies_held {d : Dev} {a : Ar} {row : List Nat} (hok : okD d) (h : Lies d a row) (hl : row.length ≤ 64 * a.s.toNat) : heldJ d a = row ++ List.replicate (64 * a.s.toNat - row.length) 0 := by
  apply List.ext_getElem?
  intro j
  by_cases hj : j < 64 * a.s.toNat
  · rw [held_get hok a j hj, h _ (by omega), fillC_get (partJ_le _ _), partJ_len, partJ_get, List.getElem?_append]
    have e : 64 * (j / 64) + j % 64 = j := by omega
    rw [e]
    by_cases hr : j < row.length
    · rw [if_pos (by omega), if_pos (by omega), if_pos hr]
    · rw [if_neg (by omega), if_pos (by omega), if_neg hr, List.getElem?_replicate, if_pos (by omega)]
  · rw [List.getElem?_eq_none (by rw [held_len hok]; omega), List.getElem?_eq_none (by simp; omega)]
theorem begins_nil (d : Dev) (a : Ar) : Begins d a [] := fun i _ => by simp [partJ]
theorem partJ_take (xs : List Nat) (n i : Nat) : partJ (xs.take n) i = (partJ xs i).take (n - 64 * i) := by
  apply List.ext_getElem?
  intro t
  rw [partJ_get, List.getElem?_take, List.getElem?_take, partJ_get]
  by_cases h1 : t < 64
  · rw [if_pos h1]
    by_cases h2 : 64 * i + t < n
    · rw [if_pos h2, if_pos (by omega), if_pos h1]
    · rw [if_neg h2, if_neg (by omega)]
  · rw [if_neg h1]; split <;> simp
theorem begins_lies {d : Dev} {a : Ar} {row : List Nat} (h : Lies d a row) (n : Nat) : Begins d a (row.take n) := by
  intro i hi
  rw [h i hi, partJ_take]
  apply List.ext_getElem?
  intro t
  rw [List.getElem?_take, List.length_take, List.getElem?_take]
  by_cases h1 : t < min (n - 64 * i) (partJ row i).length
  · rw [if_pos h1, if_pos (by omega), fillC_get_lt (partJ_le _ _) (by omega)]
  · rw [if_neg h1]
    split
    · rw [List.getElem?_eq_none (by omega)]
    · rfl
theorem begins_held {d : Dev} {a : Ar} (hok : okD d) (n : Nat) : Begins d a ((heldJ d a).take n) := by
  intro i hi
  have e : partJ (heldJ d a) i = readD d (atJ a i) := by
    apply List.ext_getElem?
    intro t
    rw [partJ_get]
    have hc := (okC_read hok (atJ a i)).1
    by_cases h1 : t < 64
    · rw [if_pos h1, held_get hok _ _ (by omega), show (64 * i + t) / 64 = i by omega, show (64 * i + t) % 64 = t by omega]
    · rw [if_neg h1, List.getElem?_eq_none (by omega)]
  rw [partJ_take, e, List.length_take]
  rw [(okC_read hok (atJ a i)).1]
  apply List.ext_getElem?
  intro t
  have hc := (okC_read hok (atJ a i)).1
  rw [List.getElem?_take, List.getElem?_take]
  by_cases h1 : t < min (n - 64 * i) 64
  · rw [if_pos h1, if_pos (by omega)]
  · rw [if_neg h1]
    split
    · rw [List.getElem?_eq_none (by omega)]
    · rfl
theorem nought_fill {c xs : List Nat} (hc : c.length = 64) (hb : c.take xs.length = xs) (hn : nought (c.drop xs.length) = true) : c = fillC xs := by
  have hl : xs.length ≤ 64 := by
    have := congrArg List.length hb
    rw [List.length_take] at this; omega
  have hz : c.drop xs.length = List.replicate (64 - xs.length) 0 := by
    apply List.eq_replicate_iff.2
    refine ⟨by rw [List.length_drop, hc], fun x hx => ?_⟩
    have := List.all_eq_true.1 hn x hx
    simpa using this
  conv => lhs; rw [← List.take_append_drop xs.length c]
  rw [hb, hz]; rfl
theorem read_rest {d : Dev} (h : d.pend = []) (k : Pl) : readD d k = d.safe k := by unfold readD; rw [h]; rfl
/-- A write that is no error's. -/
theorem wErr_zero {d : Dev} {k : Pl} {n : Nat} (h : wErr d k n = 0) : hasD d k ∧ n ≤ 64 ∧ d.crashed = false ∧ ¬ (d.armed = true ∧ d.left = 0) := by
  unfold wErr at h
  split at h
  · cases h
  · rename_i h1
    split at h
    · cases h
    · rename_i h2
      split at h
      · cases h
      · rename_i h3
        split at h
        · cases h
        · rename_i h4
          exact ⟨Decidable.not_not.1 h1, by omega, by simpa using h3, h4⟩
theorem wErr_calm {d : Dev} {k : Pl} {n : Nat} (h : hasD d k) (hn : n ≤ 64) (hc : d.crashed = false) (ha : d.armed = false) : wErr d k n = 0 := by
  unfold wErr
  rw [if_neg (fun e => e h), if_neg (by omega), if_neg (by simp [hc]), if_neg (by simp [ha])]
theorem write_stays (d : Dev) (k : Pl) (xs : List Nat) : (writeD d k xs).safe = d.safe ∧ (writeD d k xs).r = d.r ∧ (writeD d k xs).s = d.s ∧ (writeD d k xs).armed = d.armed ∧ ∀ j, j ≠ k → getP (writeD d k xs).pend j = getP d.pend j := by
  unfold writeD
  split
  · exact ⟨rfl, rfl, rfl, rfl, fun _ _ => rfl⟩
  · exact ⟨rfl, rfl, rfl, rfl, fun j hj => getP_put_other _ _ _ _ hj⟩
theorem write_at (d : Dev) (k : Pl) (xs : List Nat) : getP (writeD d k xs).pend k = getP d.pend k ∨ getP (writeD d k xs).pend k = some (fillC xs) := by
  unfold writeD
  split
  · exact .inl rfl
  · exact .inr (getP_put_same _ _ _)
theorem write_good {d : Dev} {k : Pl} {xs : List Nat} (h : wErr d k xs.length = 0) : (writeD d k xs).crashed = false ∧ getP (writeD d k xs).pend k = some (fillC xs) := by
  obtain ⟨h1, h2, h3, h4⟩ := wErr_zero h
  unfold writeD
  rw [if_neg (by rintro (e | e | e); exact e h1; omega; simp [h3] at e)]
  refine ⟨?_, getP_put_same _ _ _⟩
  show (d.crashed || (d.armed && decide (d.left = 0))) = false
  rw [h3]
  cases ha : d.armed
  · rfl
  · simp only [Bool.true_and, Bool.false_or, decide_eq_false_iff_not]
    exact fun e => h4 ⟨ha, e⟩
/-- Work on an area: what was written lies in those sectors that were worked on. -/
structure Wk (d0 : Dev) (a : Ar) (row : List Nat) (lo hi : Nat) (d : Dev) : Prop where
  safe : d.safe = d0.safe
  rs : d.r = d0.r ∧ d.s = d0.s
  ok : okD d
  non : ∀ k, (∀ j : Nat, lo ≤ j → j < hi → k ≠ atJ a j) → getP d.pend k = none
  fil : ∀ j : Nat, ∀ c, getP d.pend (atJ a j) = some c → c = fillC (partJ row j)
theorem Wk.start {d : Dev} {a : Ar} {row : List Nat} (lo : Nat) (hok : okD d) (hp : d.pend = []) : Wk d a row lo lo d :=
  ⟨rfl, ⟨rfl, rfl⟩, hok, fun k _ => by rw [hp]; rfl, fun j c h => by rw [hp] at h; cases h⟩
theorem Wk.skip {d0 d : Dev} {a : Ar} {row : List Nat} {lo hi : Nat} (h : Wk d0 a row lo hi d) : Wk d0 a row lo (hi + 1) d :=
  ⟨h.safe, h.rs, h.ok, fun k hk => h.non k (fun j h1 h2 => hk j h1 (by omega)), h.fil⟩
theorem Wk.write {d0 d : Dev} {a : Ar} {row : List Nat} {lo hi : Nat} (h : Wk d0 a row lo hi d) (hlo : lo ≤ hi) (hx : ∀ x ∈ row, x < 256) : Wk d0 a row lo (hi + 1) (writeD d (atJ a hi) (partJ row hi)) := by
  obtain ⟨w1, w2, w3, _, w5⟩ := write_stays d (atJ a hi) (partJ row hi)
  refine ⟨w1.trans h.safe, ⟨w2.trans h.rs.1, w3.trans h.rs.2⟩, okD_write h.ok (partJ_byte hx _), fun k hk => ?_, fun j c hc => ?_⟩
  · rw [w5 k (hk hi hlo (by omega))]
    exact h.non k (fun j h1 h2 => hk j h1 (by omega))
  · by_cases e : j = hi
    · subst e
      rcases write_at d (atJ a j) (partJ row j) with q | q
      · rw [q] at hc; exact h.fil j c hc
      · rw [q] at hc; cases hc; rfl
    · rw [w5 _ (atJ_ne e)] at hc
      exact h.fil j c hc
theorem Wk.region {d0 d : Dev} {a : Ar} {row : List Nat} {lo hi : Nat} (h : Wk d0 a row lo hi d) : ∀ x ∈ d.pend, x.1.1 = a.g := by
  intro x hx
  apply Decidable.byContradiction
  intro hne
  have h1 := getP_of_mem h.ok.srt (show (x.1, x.2) ∈ d.pend from hx)
  rw [h.non x.1 (fun j _ _ e => hne (by rw [e]))] at h1
  cases h1
/-- Behind the sync. -/
theorem Wk.sync {d0 d : Dev} {a : Ar} {row : List Nat} {lo hi : Nat} (h : Wk d0 a row lo hi d) : (syncedD d a.g).pend = [] ∧ okD (syncedD d a.g) ∧ ∀ k, readD (syncedD d a.g) k = readD d k := by
  have hp : (syncedD d a.g).pend = [] := by
    show d.pend.filter _ = []
    rw [List.filter_eq_nil_iff]
    intro x hx
    simp [h.region x hx]
  have hr : ∀ k, readD (syncedD d a.g) k = readD d k := fun k => by
    rw [read_rest hp]
    show (if k.1 = a.g then (getP d.pend k).getD (d.safe k) else d.safe k) = _
    split
    · rfl
    · rename_i hne
      have : getP d.pend k = none := h.non k (fun j _ _ e => hne (by rw [e]))
      unfold readD
      rw [this]; rfl
  refine ⟨hp, ⟨by rw [hp]; exact List.Pairwise.nil, fun x hx => (by rw [hp] at hx; cases hx), fun k => ?_, fun x hx => (by rw [hp] at hx; cases hx)⟩, hr⟩
  rw [← read_rest hp k, hr]
  exact okC_read h.ok k
/-- One sector cleaned: the device, whether one was written, the error's number. -/
def clnStep (a : Ar) (row : List Nat) (i : Nat) (s : Dev × Bool × Nat) : Dev × Bool × Nat :=
  if s.2.2 ≠ 0 then s
  else if rErr s.1 (atJ a i) ≠ 0 then (s.1, s.2.1, rErr s.1 (atJ a i))
  else if nought ((readD s.1 (atJ a i)).drop (partJ row i).length) = true then s
  else if wErr s.1 (atJ a i) (partJ row i).length ≠ 0 then (writeD s.1 (atJ a i) (partJ row i), s.2.1, wErr s.1 (atJ a i) (partJ row i).length)
  else (writeD s.1 (atJ a i) (partJ row i), true, 0)
def clnS (a : Ar) (row : List Nat) (d : Dev) : Nat → Dev × Bool × Nat
  | 0 => (d, false, 0)
  | i + 1 => clnStep a row i (clnS a row d i)
/-- What is left when all sectors are cleaned, and the error's number. -/
def cleanD (a : Ar) (row : List Nat) (d : Dev) : Dev := if (clnS a row d a.s.toNat).2.2 ≠ 0 then (clnS a row d a.s.toNat).1 else if (clnS a row d a.s.toNat).2.1 = true then syncD (clnS a row d a.s.toNat).1 a.g else (clnS a row d a.s.toNat).1
def cleanE (a : Ar) (row : List Nat) (d : Dev) : Nat := if (clnS a row d a.s.toNat).2.2 ≠ 0 then (clnS a row d a.s.toNat).2.2 else if (clnS a row d a.s.toNat).2.1 = true then sErr (clnS a row d a.s.toNat).1 a.g else 0
theorem cln_stop (a : Ar) (row : List Nat) (d : Dev) (i k : Nat) (h : (clnS a row d i).2.2 ≠ 0) : clnS a row d (i + k) = clnS a row d i := by
  induction k with
  | zero => rfl
  | succ k ih =>
    show clnStep a row (i + k) (clnS a row d (i + k)) = _
    rw [ih]
    unfold clnStep
    rw [if_pos h]
structure ClI (d0 : Dev) (a : Ar) (row : List Nat) (i : Nat) (s : Dev × Bool × Nat) : Prop where
  wk : Wk d0 a row 0 i s.1
  good : s.2.2 = 0 → s.1.crashed = false ∧ ∀ j : Nat, j < i → readD s.1 (atJ a j) = fillC (partJ row j)
  wr : s.2.2 = 0 → s.2.1 = false → s.1.pend = [] ∧ s.1 = d0
  arm : d0.armed = false → s.1.armed = false ∧ s.2.2 = 0
theorem read_write_other (d : Dev) (k j : Pl) (xs : List Nat) (h : j ≠ k) : readD (writeD d k xs) j = readD d j := by
  obtain ⟨w1, _, _, _, w5⟩ := write_stays d k xs
  unfold readD
  rw [w1, w5 j h]
theorem Wk.same {d0 d : Dev} {a : Ar} {row : List Nat} {lo hi : Nat} (h : Wk d0 a row lo hi d) (hp : d0.pend = []) {k : Pl} (hk : ∀ j : Nat, lo ≤ j → j < hi → k ≠ atJ a j) : readD d k = readD d0 k := by
  rw [read_rest hp]
  unfold readD
  rw [h.non k hk, h.safe]; rfl
theorem cln_inv {d0 : Dev} {a : Ar} {row : List Nat} (hok : okD d0) (hp : d0.pend = []) (hc : d0.crashed = false) (hin : inJ d0 a) (hx : ∀ x ∈ row, x < 256) (hb : Begins d0 a row) : ∀ i, i ≤ a.s.toNat → ClI d0 a row i (clnS a row d0 i)
  | 0, _ => ⟨Wk.start 0 hok hp, fun _ => ⟨hc, fun j hj => by omega⟩, fun _ _ => ⟨hp, rfl⟩, fun h => ⟨h, rfl⟩⟩
  | i + 1, hi => by
    have ih := cln_inv hok hp hc hin hx hb i (by omega)
    show ClI d0 a row (i + 1) (clnStep a row i (clnS a row d0 i))
    generalize clnS a row d0 i = s at ih ⊢
    have hin' : inJ s.1 a := by unfold inJ; rw [ih.wk.rs.1, ih.wk.rs.2]; exact hin
    have hhas := inJ_has hin' (show i < a.s.toNat by omega)
    unfold clnStep
    by_cases h1 : s.2.2 ≠ 0
    · rw [if_pos h1]
      exact ⟨ih.wk.skip, fun h => absurd h h1, fun h => absurd h h1, fun h => absurd (ih.arm h).2 h1⟩
    rw [if_neg h1]
    have h0 : s.2.2 = 0 := by simpa using h1
    obtain ⟨g1, g2⟩ := ih.good h0
    have hr : rErr s.1 (atJ a i) = 0 := by unfold rErr; rw [if_neg (fun e => e hhas), if_neg (by simp [g1])]
    rw [if_neg (by omega)]
    have hsame : readD s.1 (atJ a i) = readD d0 (atJ a i) := ih.wk.same hp (fun j _ hj => atJ_ne (by omega))
    by_cases h2 : nought ((readD s.1 (atJ a i)).drop (partJ row i).length) = true
    · rw [if_pos h2]
      refine ⟨ih.wk.skip, fun _ => ⟨g1, fun j hj => ?_⟩, ih.wr, ih.arm⟩
      by_cases e : j = i
      · subst e
        exact nought_fill (okC_read ih.wk.ok _).1 (by rw [hsame]; exact hb j (by omega)) h2
      · exact g2 j (by omega)
    rw [if_neg h2]
    by_cases h3 : wErr s.1 (atJ a i) (partJ row i).length ≠ 0
    · rw [if_pos h3]
      refine ⟨ih.wk.write (Nat.zero_le _) hx, fun h => absurd h h3, fun h => absurd h h3, fun h => ?_⟩
      exact absurd (wErr_calm hhas (partJ_le _ _) g1 (ih.arm h).1) h3
    rw [if_neg h3]
    have h3' : wErr s.1 (atJ a i) (partJ row i).length = 0 := by simpa using h3
    obtain ⟨w1, w2⟩ := write_good h3'
    refine ⟨ih.wk.write (Nat.zero_le _) hx, fun _ => ⟨w1, fun j hj => ?_⟩, fun _ h => (by cases h), fun h => ⟨(write_stays _ _ _).2.2.2.1.trans (ih.arm h).1, rfl⟩⟩
    by_cases e : j = i
    · subst e
      unfold readD
      rw [w2]; rfl
    · rw [read_write_other _ _ _ _ (atJ_ne e)]
      exact g2 j (by omega)
theorem sErr_zero {d : Dev} {a : Ar} (h : inJ d a) (hc : d.crashed = false) : sErr d a.g = 0 := by
  unfold sErr
  rw [if_neg (fun e => e ⟨h.1, h.2.1⟩), if_neg (by simp [hc])]
/-- Where cleaning goes well, the row lies there, and noughts behind it. -/
theorem clean_good {d : Dev} {a : Ar} {row : List Nat} (hok : okD d) (hp : d.pend = []) (hc : d.crashed = false) (hin : inJ d a) (hx : ∀ x ∈ row, x < 256) (hb : Begins d a row) (he : cleanE a row d = 0) :
    (cleanD a row d).pend = [] ∧ (cleanD a row d).crashed = false ∧ okD (cleanD a row d) ∧ Lies (cleanD a row d) a row ∧ (cleanD a row d).r = d.r ∧ (cleanD a row d).s = d.s := by
  have hi := cln_inv hok hp hc hin hx hb a.s.toNat (Nat.le_refl _)
  unfold cleanE at he
  unfold cleanD
  generalize clnS a row d a.s.toNat = s at *
  by_cases h1 : s.2.2 ≠ 0
  · rw [if_pos h1] at he; exact absurd he h1
  have h0 : s.2.2 = 0 := by simpa using h1
  rw [if_neg h1]
  obtain ⟨g1, g2⟩ := hi.good h0
  by_cases h2 : s.2.1 = true
  · rw [if_pos h2]
    have hin' : inJ s.1 a := by unfold inJ; rw [hi.wk.rs.1, hi.wk.rs.2]; exact hin
    have hs := sErr_zero hin' g1
    unfold syncD
    rw [if_pos hs]
    obtain ⟨s1, s2, s3⟩ := hi.wk.sync
    exact ⟨s1, g1, s2, fun i hi' => (s3 _).trans (g2 i hi'), hi.wk.rs.1, hi.wk.rs.2⟩
  · rw [if_neg h2]
    have h2' : s.2.1 = false := by simpa using h2
    exact ⟨(hi.wr h0 h2').1, g1, hi.wk.ok, g2, hi.wk.rs.1, hi.wk.rs.2⟩
theorem clean_calm {d : Dev} {a : Ar} {row : List Nat} (hok : okD d) (hp : d.pend = []) (hc : d.crashed = false) (hin : inJ d a) (hx : ∀ x ∈ row, x < 256) (hb : Begins d a row) (ha : d.armed = false) :
    cleanE a row d = 0 ∧ (cleanD a row d).armed = false := by
  have hi := cln_inv hok hp hc hin hx hb a.s.toNat (Nat.le_refl _)
  unfold cleanE cleanD
  generalize clnS a row d a.s.toNat = s at *
  obtain ⟨a1, a2⟩ := hi.arm ha
  have h0 : ¬ s.2.2 ≠ 0 := fun e => e a2
  have hin' : inJ s.1 a := by unfold inJ; rw [hi.wk.rs.1, hi.wk.rs.2]; exact hin
  have hs := sErr_zero hin' (hi.good a2).1
  simp only [if_neg h0]
  by_cases h2 : s.2.1 = true
  · simp only [if_pos h2]
    refine ⟨hs, ?_⟩
    unfold syncD
    rw [if_pos hs]
    exact a1
  · simp only [if_neg h2]
    exact ⟨trivial, a1⟩
/-- Sectors written one behind the other, up to the first error. -/
def wrtS (a : Ar) (row : List Nat) (f : Nat) (d : Dev) : Nat → Dev × Nat
  | 0 => (d, 0)
  | k + 1 => if (wrtS a row f d k).2 ≠ 0 then wrtS a row f d k else (writeD (wrtS a row f d k).1 (atJ a (f + k)) (partJ row (f + k)), wErr (wrtS a row f d k).1 (atJ a (f + k)) (partJ row (f + k)).length)
/-- How many sectors are written of a row of which so many bytes are safe. -/
def cntJ (row : List Nat) (sf : Nat) : Nat := (row.length - 1) / 64 + 1 - sf / 64
def wrtD (a : Ar) (row : List Nat) (sf : Nat) (d : Dev) : Dev := if (wrtS a row (sf / 64) d (cntJ row sf)).2 ≠ 0 then (wrtS a row (sf / 64) d (cntJ row sf)).1 else syncD (wrtS a row (sf / 64) d (cntJ row sf)).1 a.g
def wrtE (a : Ar) (row : List Nat) (sf : Nat) (d : Dev) : Nat := if (wrtS a row (sf / 64) d (cntJ row sf)).2 ≠ 0 then (wrtS a row (sf / 64) d (cntJ row sf)).2 else sErr (wrtS a row (sf / 64) d (cntJ row sf)).1 a.g
theorem wrt_stop (a : Ar) (row : List Nat) (f : Nat) (d : Dev) (i k : Nat) (h : (wrtS a row f d i).2 ≠ 0) : wrtS a row f d (i + k) = wrtS a row f d i := by
  induction k with
  | zero => rfl
  | succ k ih =>
    show (if (wrtS a row f d (i + k)).2 ≠ 0 then wrtS a row f d (i + k) else _) = _
    rw [ih, if_pos h]
structure WrI (d0 : Dev) (a : Ar) (row : List Nat) (f k : Nat) (s : Dev × Nat) : Prop where
  wk : Wk d0 a row f (f + k) s.1
  good : s.2 = 0 → s.1.crashed = false ∧ ∀ j : Nat, f ≤ j → j < f + k → readD s.1 (atJ a j) = fillC (partJ row j)
  arm : d0.armed = false → s.1.armed = false ∧ s.2 = 0
theorem wrt_inv {d0 : Dev} {a : Ar} {row : List Nat} {f : Nat} (hok : okD d0) (hp : d0.pend = []) (hc : d0.crashed = false) (hin : inJ d0 a) (hx : ∀ x ∈ row, x < 256) : ∀ k, f + k ≤ a.s.toNat → WrI d0 a row f k (wrtS a row f d0 k)
  | 0, _ => ⟨Wk.start f hok hp, fun _ => ⟨hc, fun j h1 h2 => by omega⟩, fun h => ⟨h, rfl⟩⟩
  | k + 1, hk => by
    have ih := wrt_inv (f := f) hok hp hc hin hx k (by omega)
    show WrI d0 a row f (k + 1) (if (wrtS a row f d0 k).2 ≠ 0 then wrtS a row f d0 k else (writeD (wrtS a row f d0 k).1 (atJ a (f + k)) (partJ row (f + k)), wErr (wrtS a row f d0 k).1 (atJ a (f + k)) (partJ row (f + k)).length))
    generalize wrtS a row f d0 k = s at ih ⊢
    have hin' : inJ s.1 a := by unfold inJ; rw [ih.wk.rs.1, ih.wk.rs.2]; exact hin
    have hhas := inJ_has hin' (show f + k < a.s.toNat by omega)
    by_cases h1 : s.2 ≠ 0
    · rw [if_pos h1]
      exact ⟨ih.wk.skip, fun h => absurd h h1, fun h => absurd (ih.arm h).2 h1⟩
    rw [if_neg h1]
    have h0 : s.2 = 0 := by simpa using h1
    obtain ⟨g1, g2⟩ := ih.good h0
    refine ⟨ih.wk.write (by omega) hx, fun h => ?_, fun h => ⟨(write_stays _ _ _).2.2.2.1.trans (ih.arm h).1, wErr_calm hhas (partJ_le _ _) g1 (ih.arm h).1⟩⟩
    obtain ⟨w1, w2⟩ := write_good h
    refine ⟨w1, fun j j1 j2 => ?_⟩
    by_cases e : j = f + k
    · subst e
      show readD (writeD s.1 (atJ a (f + k)) (partJ row (f + k))) (atJ a (f + k)) = _
      unfold readD
      rw [w2]; rfl
    · show readD (writeD s.1 (atJ a (f + k)) (partJ row (f + k))) (atJ a j) = _
      rw [read_write_other _ _ _ _ (atJ_ne e)]
      exact g2 j j1 (by omega)
theorem cnt_le {row : List Nat} {sf s : Nat} (hs : sf < row.length) (hl : row.length ≤ 64 * s) : sf / 64 + cntJ row sf = (row.length - 1) / 64 + 1 ∧ sf / 64 + cntJ row sf ≤ s := by
  unfold cntJ
  omega
theorem partJ_same {row : List Nat} {sf j : Nat} (h : 64 * j + 64 ≤ sf) : partJ (row.take sf) j = partJ row j := by
  rw [partJ_take, List.take_of_length_le (by have := partJ_le row j; omega)]
/-- Where writing goes well, the whole row lies there. -/
theorem wrt_good {d : Dev} {a : Ar} {row : List Nat} {sf : Nat} (hok : okD d) (hp : d.pend = []) (hc : d.crashed = false) (hin : inJ d a) (hx : ∀ x ∈ row, x < 256) (hs : sf < row.length) (hl : row.length ≤ 64 * a.s.toNat) (hb : Lies d a (row.take sf)) (he : wrtE a row sf d = 0) :
    (wrtD a row sf d).pend = [] ∧ (wrtD a row sf d).crashed = false ∧ okD (wrtD a row sf d) ∧ Lies (wrtD a row sf d) a row ∧ (wrtD a row sf d).r = d.r ∧ (wrtD a row sf d).s = d.s := by
  obtain ⟨c1, c2⟩ := cnt_le hs hl
  have hi := wrt_inv (f := sf / 64) hok hp hc hin hx (cntJ row sf) c2
  unfold wrtE at he
  unfold wrtD
  generalize wrtS a row (sf / 64) d (cntJ row sf) = s at *
  by_cases h1 : s.2 ≠ 0
  · rw [if_pos h1] at he; exact absurd he h1
  have h0 : s.2 = 0 := by simpa using h1
  rw [if_neg h1]
  obtain ⟨g1, g2⟩ := hi.good h0
  have hin' : inJ s.1 a := by unfold inJ; rw [hi.wk.rs.1, hi.wk.rs.2]; exact hin
  have hs' := sErr_zero hin' g1
  unfold syncD
  rw [if_pos hs']
  obtain ⟨s1, s2, s3⟩ := hi.wk.sync
  refine ⟨s1, g1, s2, fun i hi' => ?_, hi.wk.rs.1, hi.wk.rs.2⟩
  rw [s3]
  by_cases hlo : sf / 64 ≤ i
  · by_cases hhi : i < sf / 64 + cntJ row sf
    · exact g2 i hlo hhi
    · rw [hi.wk.same hp (fun j _ hj => atJ_ne (by omega)), hb i hi']
      have e1 : partJ row i = [] := List.eq_nil_of_length_eq_zero (by rw [partJ_len]; omega)
      rw [partJ_take, e1, List.take_nil]
  · rw [hi.wk.same hp (fun j hj _ => atJ_ne (by omega)), hb i hi', partJ_same (by omega)]
theorem wrt_calm {d : Dev} {a : Ar} {row : List Nat} {sf : Nat} (hok : okD d) (hp : d.pend = []) (hc : d.crashed = false) (hin : inJ d a) (hx : ∀ x ∈ row, x < 256) (hs : sf < row.length) (hl : row.length ≤ 64 * a.s.toNat) (ha : d.armed = false) :
    wrtE a row sf d = 0 ∧ (wrtD a row sf d).armed = false := by
  obtain ⟨c1, c2⟩ := cnt_le hs hl
  have hi := wrt_inv (f := sf / 64) hok hp hc hin hx (cntJ row sf) c2
  unfold wrtE wrtD
  generalize wrtS a row (sf / 64) d (cntJ row sf) = s at *
  obtain ⟨a1, a2⟩ := hi.arm ha
  have h0 : ¬ s.2 ≠ 0 := fun e => e a2
  have hin' : inJ s.1 a := by unfold inJ; rw [hi.wk.rs.1, hi.wk.rs.2]; exact hin
  have hs := sErr_zero hin' (hi.good a2).1
  simp only [if_neg h0]
  refine ⟨hs, ?_⟩
  unfold syncD
  rw [if_pos hs]
  exact a1
/-- What a restart makes of a sector. -/
theorem goR_at : ∀ (l : List (Pl × Ct)) (ns : List Int) (f : Pl → Ct) (k : Pl), SrtP l → goR f l ns k = f k ∨ ∃ n c, getP l k = some c ∧ goR f l ns k = chosenC n c (f k)
  | [], _, f, k, _ => .inl rfl
  | x :: r, [], f, k, _ => .inl rfl
  | x :: r, n :: ns, f, k, hs => by
    obtain ⟨h1, h2⟩ := List.pairwise_cons.1 hs
    show goR (updC f x.1 (chosenC n x.2 (f x.1))) r ns k = f k ∨ _
    by_cases e : x.1 = k
    · right
      refine ⟨n, x.2, by rw [getP_cons, if_pos e], ?_⟩
      show goR (updC f x.1 (chosenC n x.2 (f x.1))) r ns k = _
      have hn : getP r k = none := by
        cases hg : getP r k with
        | none => rfl
        | some c =>
          have := h1 _ (getP_mem hg)
          rw [e] at this
          exact absurd this (ltP_irrefl k)
      rw [goR_other r ns _ k hn, e]
      simp [updC]
    · rcases goR_at r ns (updC f x.1 (chosenC n x.2 (f x.1))) k h2 with q | ⟨m, c, q1, q2⟩
      · left
        rw [q]
        simp [updC, Ne.symm e]
      · right
        refine ⟨m, c, by rw [getP_cons, if_neg e]; exact q1, ?_⟩
        show goR (updC f x.1 (chosenC n x.2 (f x.1))) r ns k = _
        rw [q2]
        simp [updC, Ne.symm e]
theorem chosenC_get {n : Int} {a b : Ct} (ha : a.length = 64) {t : Nat} (h : a[t]? = b[t]?) : (chosenC n a b)[t]? = b[t]? := by
  unfold chosenC
  split
  · exact h
  · split
    · unfold tornC
      rw [List.getElem?_append, List.length_take]
      by_cases h1 : t < 32
      · rw [if_pos (by omega), List.getElem?_take, if_pos h1, h]
      · rw [if_neg (by omega), List.getElem?_drop]
        congr 1
        omega
    · rfl
theorem okD_restart' {d : Dev} (h : okD d) (ns : List Int) : okD (restartD d ns) :=
  ⟨List.Pairwise.nil, fun x hx => (by cases hx), okC_goR _ _ _ h.pend h.safe, fun x hx => (by cases hx)⟩
/-- Whatever becomes of a write behind a crash: the bytes that were safe are there. -/
theorem wrt_crash {d : Dev} {a : Ar} {row : List Nat} {sf : Nat} (hok : okD d) (hp : d.pend = []) (hc : d.crashed = false) (hin : inJ d a) (hx : ∀ x ∈ row, x < 256) (hs : sf < row.length) (hl : row.length ≤ 64 * a.s.toNat) (hb : Lies d a (row.take sf)) (ns : List Int) :
    okD (restartD (wrtD a row sf d) ns) ∧ (restartD (wrtD a row sf d) ns).r = d.r ∧ (restartD (wrtD a row sf d) ns).s = d.s ∧ (heldJ (restartD (wrtD a row sf d) ns) a).take sf = row.take sf := by
  obtain ⟨c1, c2⟩ := cnt_le hs hl
  have hi := wrt_inv (f := sf / 64) hok hp hc hin hx (cntJ row sf) c2
  -- what a sector holds then
  have main : ∀ d2 : Dev, okD d2 → d2.pend = [] → (∀ j : Nat, j < a.s.toNat → ∀ t : Nat, 64 * j + t < sf → t < 64 → (readD d2 (atJ a j))[t]? = row[64 * j + t]?) → (heldJ d2 a).take sf = row.take sf := by
    intro d2 hok2 hp2 hh
    apply List.ext_getElem?
    intro j
    rw [List.getElem?_take, List.getElem?_take]
    by_cases hj : j < sf
    · rw [if_pos hj, if_pos hj, held_get hok2 a j (by omega), hh (j / 64) (by omega) (j % 64) (by omega) (by omega)]
      congr 1
      omega
    · rw [if_neg hj, if_neg hj]
  have old : ∀ j : Nat, j < a.s.toNat → ∀ t : Nat, 64 * j + t < sf → t < 64 → (fillC (partJ (row.take sf) j))[t]? = row[64 * j + t]? := by
    intro j hj t ht ht2
    rw [fillC_get_lt (partJ_le _ _) (by rw [partJ_len, List.length_take]; omega), partJ_get, if_pos ht2, List.getElem?_take, if_pos ht]
  have new : ∀ j : Nat, j < a.s.toNat → ∀ t : Nat, 64 * j + t < sf → t < 64 → (fillC (partJ row j))[t]? = row[64 * j + t]? := by
    intro j hj t ht ht2
    rw [fillC_get_lt (partJ_le _ _) (by rw [partJ_len]; omega), partJ_get, if_pos ht2]
  have hread : ∀ j : Nat, j < a.s.toNat → d.safe (atJ a j) = fillC (partJ (row.take sf) j) := fun j hj => by rw [← read_rest hp, hb j hj]
  unfold wrtD
  generalize wrtS a row (sf / 64) d (cntJ row sf) = s at *
  by_cases h1 : s.2 ≠ 0
  · rw [if_pos h1]
    refine ⟨okD_restart' hi.wk.ok ns, hi.wk.rs.1, hi.wk.rs.2, main _ (okD_restart' hi.wk.ok ns) rfl fun j hj t ht ht2 => ?_⟩
    rw [read_rest rfl]
    show (goR s.1.safe s.1.pend ns (atJ a j))[t]? = _
    rcases goR_at s.1.pend ns s.1.safe (atJ a j) hi.wk.ok.srt with q | ⟨n, c, q1, q2⟩
    · rw [q, hi.wk.safe, hread j hj]
      exact old j hj t ht ht2
    · have e := hi.wk.fil j c q1
      rw [q2, hi.wk.safe, hread j hj, e, chosenC_get (okC_fill (partJ_le _ _) (partJ_byte hx _)).1 ((new j hj t ht ht2).trans (old j hj t ht ht2).symm)]
      exact old j hj t ht ht2
  · have h0 : s.2 = 0 := by simpa using h1
    rw [if_neg h1]
    obtain ⟨g1, g2⟩ := hi.good h0
    have hin' : inJ s.1 a := by unfold inJ; rw [hi.wk.rs.1, hi.wk.rs.2]; exact hin
    have hs' := sErr_zero hin' g1
    unfold syncD
    rw [if_pos hs']
    obtain ⟨s1, s2, s3⟩ := hi.wk.sync
    refine ⟨okD_restart' s2 ns, hi.wk.rs.1, hi.wk.rs.2, main _ (okD_restart' s2 ns) rfl fun j hj t ht ht2 => ?_⟩
    rw [read_rest rfl]
    show (goR (syncedD s.1 a.g).safe (syncedD s.1 a.g).pend ns (atJ a j))[t]? = _
    rw [s1]
    show ((syncedD s.1 a.g).safe (atJ a j))[t]? = _
    rw [← read_rest s1, s3]
    by_cases hr : sf / 64 ≤ j ∧ j < sf / 64 + cntJ row sf
    · rw [g2 j hr.1 hr.2]
      exact new j hj t ht ht2
    · rw [hi.wk.same hp (fun j' q1 q2 => atJ_ne (by omega)), hb j hj]
      exact old j hj t ht ht2
/-- A restart with nothing pending changes nothing that is read. -/
theorem restart_same {d : Dev} (hp : d.pend = []) (ns : List Int) (k : Pl) : readD (restartD d ns) k = readD d k := by
  rw [read_rest rfl, read_rest hp]
  show goR d.safe d.pend ns k = _
  rw [hp]; cases ns <;> rfl
theorem lies_restart {d : Dev} {a : Ar} {row : List Nat} (hp : d.pend = []) (h : Lies d a row) (ns : List Int) : Lies (restartD d ns) a row := fun i hi => by rw [restart_same hp]; exact h i hi
end Go.Proofs.YtjnhcanohefjiaaGreatDoor

namespace Go.Proofs.YtjnhcanohefjiaaGreatDoor

/-- A sector that was ever written. -/
structure RS where
  key : Pl
  safe : Ct
  now : Ct
  pend : Bool
def SrtR (l : List RS) : Prop := l.Pairwise (fun a b => ltP a.key b.key)
def findR (l : List RS) (k : Pl) : Option RS := l.find? (fun x => decide (x.key = k))
def pendL (l : List RS) : List (Pl × Ct) := (l.filter (·.pend)).map (fun x => (x.key, x.now))
def safeL (l : List RS) (k : Pl) : Ct := ((findR l k).map (·.safe)).getD zeroC
def putR : List RS → Pl → Ct → List RS
  | [], k, c => [⟨k, zeroC, c, true⟩]
  | x :: r, k, c => if ltP k x.key then ⟨k, zeroC, c, true⟩ :: x :: r else if k = x.key then ⟨k, x.safe, c, true⟩ :: r else x :: putR r k c
def syncO (g : Int) (x : RS) : RS := if x.key.1 = g ∧ x.pend = true then ⟨x.key, x.now, x.now, false⟩ else x
def syncR (g : Int) (l : List RS) : List RS := l.map (syncO g)
def restR : List RS → List Int → List RS
  | [], _ => []
  | x :: r, ns => if x.pend = true then ⟨x.key, chosenC (ns.headD 0) x.now x.safe, x.now, false⟩ :: restR r ns.tail else x :: restR r ns
theorem findR_cons (x : RS) (r : List RS) (k : Pl) : findR (x :: r) k = if x.key = k then some x else findR r k := by
  unfold findR
  by_cases h : x.key = k <;> simp [h]
theorem findR_none {l : List RS} {k : Pl} (h : ∀ x ∈ l, x.key ≠ k) : findR l k = none := by
  unfold findR
  exact List.find?_eq_none.2 fun x hx => by simp [h x hx]
theorem findR_mem {l : List RS} {k : Pl} {x : RS} (h : findR l k = some x) : x ∈ l ∧ x.key = k := by
  unfold findR at h
  exact ⟨List.mem_of_find?_eq_some h, by simpa using List.find?_some h⟩
theorem safeL_cons (x : RS) (r : List RS) (k : Pl) : safeL (x :: r) k = if x.key = k then x.safe else safeL r k := by
  unfold safeL
  rw [findR_cons]
  split <;> rfl
theorem pendL_cons (x : RS) (r : List RS) : pendL (x :: r) = if x.pend = true then (x.key, x.now) :: pendL r else pendL r := by
  unfold pendL
  by_cases h : x.pend = true <;> simp [h]
theorem mem_pendL {l : List RS} {y : Pl × Ct} (h : y ∈ pendL l) : ∃ x ∈ l, x.key = y.1 ∧ x.now = y.2 := by
  unfold pendL at h
  obtain ⟨x, hx, rfl⟩ := List.mem_map.1 h
  exact ⟨x, (List.mem_filter.1 hx).1, rfl, rfl⟩
theorem getP_none {l : List (Pl × Ct)} {k : Pl} (h : ∀ x ∈ l, x.1 ≠ k) : getP l k = none := by
  unfold getP
  rw [List.find?_eq_none.2 fun x hx => by simp [h x hx]]; rfl
theorem srtR_cons {x : RS} {r : List RS} (h : SrtR (x :: r)) : (∀ y ∈ r, ltP x.key y.key) ∧ SrtR r := List.pairwise_cons.1 h
/-- What is pending at a place. -/
theorem get_pendL : ∀ {l : List RS} (k : Pl), SrtR l → getP (pendL l) k = (findR l k).bind (fun x => if x.pend = true then some x.now else none)
  | [], k, _ => rfl
  | x :: r, k, h => by
    obtain ⟨h1, h2⟩ := srtR_cons h
    rw [pendL_cons, findR_cons]
    by_cases e : x.key = k
    · rw [if_pos e]
      by_cases hp : x.pend = true
      · rw [if_pos hp, getP_cons, if_pos e]; simp [hp]
      · rw [if_neg hp, getP_none]
        · simp [hp]
        · intro y hy
          obtain ⟨z, hz, hk, _⟩ := mem_pendL hy
          rw [← hk, ← e]
          exact Ne.symm (ltP_ne (h1 z hz))
    · rw [if_neg e]
      by_cases hp : x.pend = true
      · rw [if_pos hp, getP_cons, if_neg e, get_pendL k h2]
      · rw [if_neg hp, get_pendL k h2]
theorem mem_putR : ∀ {l : List RS} {k : Pl} {c : Ct} {x : RS}, x ∈ putR l k c → (x.key = k ∧ x.now = c ∧ (x.safe = zeroC ∨ ∃ y ∈ l, x.safe = y.safe)) ∨ x ∈ l
  | [], k, c, x, h => by
    simp [putR] at h; subst h; exact .inl ⟨rfl, rfl, .inl rfl⟩
  | y :: r, k, c, x, h => by
    unfold putR at h
    split at h
    · rcases List.mem_cons.1 h with rfl | h
      · exact .inl ⟨rfl, rfl, .inl rfl⟩
      · exact .inr h
    · split at h
      · rcases List.mem_cons.1 h with rfl | h
        · exact .inl ⟨rfl, rfl, .inr ⟨y, List.mem_cons_self, rfl⟩⟩
        · exact .inr (List.mem_cons_of_mem _ h)
      · rcases List.mem_cons.1 h with rfl | h
        · exact .inr List.mem_cons_self
        · rcases mem_putR h with ⟨h1, h2, h3⟩ | h
          · exact .inl ⟨h1, h2, h3.imp_right fun ⟨z, hz, e⟩ => ⟨z, List.mem_cons_of_mem _ hz, e⟩⟩
          · exact .inr (List.mem_cons_of_mem _ h)
theorem srt_putR : ∀ {l : List RS} (k : Pl) (c : Ct), SrtR l → SrtR (putR l k c)
  | [], k, c, _ => by simp [putR, SrtR]
  | y :: r, k, c, h => by
    obtain ⟨h1, h2⟩ := srtR_cons h
    unfold putR
    split
    · rename_i hk
      refine List.pairwise_cons.2 ⟨fun q hq => ?_, h⟩
      rcases List.mem_cons.1 hq with rfl | hq
      · exact hk
      · exact ltP_trans hk (h1 q hq)
    · split
      · rename_i hk
        refine List.pairwise_cons.2 ⟨fun q hq => ?_, h2⟩
        show ltP k q.key
        rw [hk]; exact h1 q hq
      · rename_i h3 h4
        refine List.pairwise_cons.2 ⟨fun q hq => ?_, srt_putR k c h2⟩
        rcases mem_putR hq with ⟨hq, _⟩ | hq
        · rw [hq]
          rcases ltP_total k y.key with h | h | h
          · exact absurd h h3
          · exact absurd h h4
          · exact h
        · exact h1 q hq
theorem putP_front {l : List (Pl × Ct)} {k : Pl} (c : Ct) (h : ∀ x ∈ l, ltP k x.1) : putP l k c = (k, c) :: l := by
  cases l with
  | nil => rfl
  | cons x r => unfold putP; rw [if_pos (h x List.mem_cons_self)]
theorem pend_putR : ∀ {l : List RS} (k : Pl) (c : Ct), SrtR l → pendL (putR l k c) = putP (pendL l) k c
  | [], k, c, _ => rfl
  | y :: r, k, c, h => by
    obtain ⟨h1, h2⟩ := srtR_cons h
    have hr : ∀ {q : Pl}, q = y.key ∨ ltP q y.key → ∀ x ∈ pendL r, ltP q x.1 := by
      intro q hq x hx
      obtain ⟨z, hz, hk, _⟩ := mem_pendL hx
      rw [← hk]
      rcases hq with rfl | hq
      · exact h1 z hz
      · exact ltP_trans hq (h1 z hz)
    unfold putR
    split
    · rename_i hk
      rw [pendL_cons, if_pos rfl, putP_front]
      intro x hx
      rw [pendL_cons] at hx
      split at hx
      · rcases List.mem_cons.1 hx with rfl | hx
        · exact hk
        · exact hr (.inr hk) x hx
      · exact hr (.inr hk) x hx
    · rename_i hk
      split
      · rename_i he
        rw [pendL_cons, if_pos rfl, pendL_cons]
        split
        · unfold putP
          rw [if_neg (by simpa using hk), if_pos (by simpa using he)]
        · rw [putP_front _ (hr (.inl he))]
      · rename_i he
        rw [pendL_cons, pendL_cons, pend_putR k c h2]
        split
        · rw [show putP ((y.key, y.now) :: pendL r) k c = (y.key, y.now) :: putP (pendL r) k c by
            conv => lhs; unfold putP
            rw [if_neg (by simpa using hk), if_neg (by simpa using he)]]
        · rfl
theorem safe_putR : ∀ {l : List RS} (k : Pl) (c : Ct) (j : Pl), SrtR l → safeL (putR l k c) j = safeL l j
  | [], k, c, j, _ => by
    unfold putR
    rw [safeL_cons]
    split <;> rfl
  | y :: r, k, c, j, h => by
    obtain ⟨h1, h2⟩ := srtR_cons h
    unfold putR
    split
    · rename_i hk
      rw [safeL_cons]
      split
      · rename_i e
        have : findR (y :: r) j = none := findR_none fun x hx => by
          rw [← e]
          rcases List.mem_cons.1 hx with rfl | hx
          · exact Ne.symm (ltP_ne hk)
          · exact Ne.symm (ltP_ne (ltP_trans hk (h1 x hx)))
        unfold safeL
        rw [this]; rfl
      · rfl
    · split
      · rename_i he
        rw [safeL_cons, safeL_cons, he]
      · rw [safeL_cons, safeL_cons, safe_putR k c j h2]
/-- Where one is put, what lies ahead of it stays. -/
theorem putR_split : ∀ {A : List RS} (B : List RS) (k : Pl) (c : Ct), (∀ x ∈ A, ltP x.key k) → putR (A ++ B) k c = A ++ putR B k c
  | [], B, k, c, _ => rfl
  | x :: A, B, k, c, h => by
    have hx := h x List.mem_cons_self
    show putR (x :: (A ++ B)) k c = _
    conv => lhs; unfold putR
    rw [if_neg (fun e => ltP_irrefl _ (ltP_trans e hx)), if_neg (fun e : k = x.key => ltP_ne hx e.symm), putR_split B k c (fun y hy => h y (List.mem_cons_of_mem _ hy))]
    simp only [List.cons_append]
theorem findR_split {A : List RS} (B : List RS) (k : Pl) (h : ∀ x ∈ A, ltP x.key k) : findR (A ++ B) k = findR B k := by
  unfold findR
  rw [List.find?_append, List.find?_eq_none.2 fun x hx => by simp [ltP_ne (h x hx)]]; rfl
theorem syncO_key (g : Int) (x : RS) : (syncO g x).key = x.key := by unfold syncO; split <;> rfl
theorem findR_map {f : RS → RS} (hf : ∀ x, (f x).key = x.key) (l : List RS) (k : Pl) : findR (l.map f) k = (findR l k).map f := by
  induction l with
  | nil => rfl
  | cons x r ih =>
    rw [List.map_cons, findR_cons, findR_cons, hf, ih]
    split <;> rfl
theorem srt_syncR {g : Int} {l : List RS} (h : SrtR l) : SrtR (syncR g l) := by
  unfold SrtR syncR
  rw [List.pairwise_map]
  exact List.Pairwise.imp (fun h => by rw [syncO_key, syncO_key]; exact h) h
theorem pend_syncR (g : Int) : ∀ (l : List RS), pendL (syncR g l) = (pendL l).filter (fun x => decide (x.1.1 ≠ g))
  | [] => rfl
  | x :: r => by
    show pendL (syncO g x :: syncR g r) = _
    rw [pendL_cons, pendL_cons, pend_syncR g r, syncO_key]
    by_cases hp : x.pend = true
    · by_cases hg : x.key.1 = g
      · rw [if_neg (by simp [syncO, hp, hg]), if_pos hp, List.filter_cons, if_neg (by simp [hg])]
      · have e : syncO g x = x := by simp [syncO, hg]
        rw [e, if_pos hp, if_pos hp, List.filter_cons, if_pos (by simp [hg])]
    · have e : syncO g x = x := by simp [syncO, hp]
      rw [e, if_neg hp, if_neg hp]
theorem safe_syncR {g : Int} {l : List RS} (h : SrtR l) (k : Pl) : safeL (syncR g l) k = if k.1 = g then (getP (pendL l) k).getD (safeL l k) else safeL l k := by
  rw [get_pendL k h]
  unfold safeL syncR
  rw [findR_map (syncO_key g)]
  cases hf : findR l k with
  | none => simp
  | some x =>
    have hk := (findR_mem hf).2
    by_cases hg : k.1 = g
    · by_cases hp : x.pend = true <;> simp [syncO, hk, hg, hp]
    · simp [syncO, hk, hg]
theorem mem_syncR {g : Int} {l : List RS} {x : RS} (h : x ∈ syncR g l) : ∃ y ∈ l, x.key = y.key ∧ x.now = y.now ∧ (x.safe = y.safe ∨ x.safe = y.now) := by
  obtain ⟨y, hy, rfl⟩ := List.mem_map.1 h
  refine ⟨y, hy, syncO_key g y, ?_, ?_⟩ <;> unfold syncO <;> split <;> simp
theorem mem_restR : ∀ {l : List RS} {ns : List Int} {x : RS}, x ∈ restR l ns → ∃ y ∈ l, x.key = y.key ∧ x.now = y.now ∧ x.pend = false ∧ (x.safe = y.safe ∨ ∃ n, x.safe = chosenC n y.now y.safe)
  | [], _, x, h => by simp [restR] at h
  | y :: r, ns, x, h => by
    unfold restR at h
    split at h
    · rcases List.mem_cons.1 h with rfl | h
      · exact ⟨y, List.mem_cons_self, rfl, rfl, rfl, .inr ⟨_, rfl⟩⟩
      · obtain ⟨z, hz, e⟩ := mem_restR h
        exact ⟨z, List.mem_cons_of_mem _ hz, e⟩
    · rename_i hp
      rcases List.mem_cons.1 h with rfl | h
      · exact ⟨x, List.mem_cons_self, rfl, rfl, by simpa using hp, .inl rfl⟩
      · obtain ⟨z, hz, e⟩ := mem_restR h
        exact ⟨z, List.mem_cons_of_mem _ hz, e⟩
theorem srt_restR : ∀ {l : List RS} (ns : List Int), SrtR l → SrtR (restR l ns)
  | [], _, _ => List.Pairwise.nil
  | x :: r, ns, h => by
    obtain ⟨h1, h2⟩ := srtR_cons h
    unfold restR
    split
    · refine List.pairwise_cons.2 ⟨fun y hy => ?_, srt_restR _ h2⟩
      obtain ⟨z, hz, e, _⟩ := mem_restR hy
      rw [e]; exact h1 z hz
    · refine List.pairwise_cons.2 ⟨fun y hy => ?_, srt_restR _ h2⟩
      obtain ⟨z, hz, e, _⟩ := mem_restR hy
      rw [e]; exact h1 z hz
theorem pend_restR (l : List RS) (ns : List Int) : pendL (restR l ns) = [] := by
  unfold pendL
  rw [List.map_eq_nil_iff, List.filter_eq_nil_iff]
  intro x hx
  obtain ⟨_, _, _, _, e, _⟩ := mem_restR hx
  simp [e]
theorem chosen_zero (a b : Ct) : chosenC 0 a b = b := by simp [chosenC]
theorem safe_restR : ∀ {l : List RS} (ns : List Int) (f : Pl → Ct), SrtR l → (∀ x ∈ l, f x.key = x.safe) → ∀ k, goR f (pendL l) ns k = if (findR l k).isSome = true then safeL (restR l ns) k else f k
  | [], ns, f, _, _, k => by
    have : goR f (pendL []) ns = f := by cases ns <;> rfl
    rw [this]; simp [findR]
  | x :: r, ns, f, h, hf, k => by
    obtain ⟨h1, h2⟩ := srtR_cons h
    have hx := hf x List.mem_cons_self
    have hne : ∀ y ∈ r, y.key ≠ x.key := fun y hy => Ne.symm (ltP_ne (h1 y hy))
    have hnr : findR r x.key = none := findR_none hne
    rw [pendL_cons, findR_cons]
    unfold restR
    by_cases hp : x.pend = true
    · rw [if_pos hp, if_pos hp, safeL_cons]
      cases ns with
      | nil =>
        have ih := safe_restR [] f h2 (fun y hy => hf y (List.mem_cons_of_mem _ hy)) k
        have e0 : goR f ((x.key, x.now) :: pendL r) [] = f := rfl
        have e1 : goR f (pendL r) [] = f := by cases pendL r <;> rfl
        rw [e1] at ih
        rw [e0]
        by_cases e : x.key = k
        · simp [e, ← hx, chosen_zero]
        · simp only [if_neg e]
          exact ih
      | cons n ns =>
        have ih := safe_restR ns (updC f x.key (chosenC n x.now (f x.key))) h2 (fun y hy => by simp [updC, hne y hy, hf y (List.mem_cons_of_mem _ hy)]) k
        have e0 : goR f ((x.key, x.now) :: pendL r) (n :: ns) = goR (updC f x.key (chosenC n x.now (f x.key))) (pendL r) ns := rfl
        rw [e0, ih]
        by_cases e : x.key = k
        · subst e
          simp [hnr, updC, hx]
        · simp only [if_neg e, List.tail_cons]
          by_cases hs : (findR r k).isSome = true
          · simp [hs]
          · simp [hs, updC, Ne.symm e]
    · rw [if_neg hp, if_neg hp, safeL_cons]
      have ih := safe_restR ns f h2 (fun y hy => hf y (List.mem_cons_of_mem _ hy)) k
      rw [ih]
      by_cases e : x.key = k
      · subst e
        simp [hnr, hx]
      · simp only [if_neg e]
/-- The document's device. -/
structure RD where
  r : Int
  s : Int
  l : List RS
  crashed : Bool
  armed : Bool
  left : Int
def newR (r s : Int) : RD := ⟨r, s, [], false, false, 0⟩
def doneR (x : RD) (k : Pl) (c : Ct) : RD :=
  if x.armed = true ∧ x.left = 0 then { x with l := putR x.l k c, crashed := true } else { x with l := putR x.l k c, left := IntKind.i64.wrap (x.left - 1) }
def writeR (x : RD) (d : Dev) (k : Pl) (xs : List Nat) : RD := if ¬ hasD d k ∨ 64 < xs.length ∨ d.crashed = true then x else doneR x k (fillC xs)
def syncRD (x : RD) (d : Dev) (g : Int) : RD := if sErr d g = 0 then { x with l := syncR g x.l } else x
def restRD (x : RD) (ns : List Int) : RD := { x with l := restR x.l ns, crashed := false, armed := false }
/-- Both are the same device. -/
structure Tie (d : Dev) (x : RD) : Prop where
  r : x.r = d.r
  s : x.s = d.s
  cr : x.crashed = d.crashed
  ar : x.armed = d.armed
  lf : d.armed = true → x.left = d.left
  srt : SrtR x.l
  pend : d.pend = pendL x.l
  safe : ∀ k, d.safe k = safeL x.l k
  ok : ∀ y ∈ x.l, okC y.safe ∧ okC y.now ∧ hasD d y.key
theorem tie_new (r s : Int) : Tie (newD r s) (newR r s) := ⟨rfl, rfl, rfl, rfl, (fun h => Bool.noConfusion h), List.Pairwise.nil, rfl, (fun _ => rfl), (fun y hy => by simp [newR] at hy)⟩
theorem tie_done {d : Dev} {x : RD} (h : Tie d x) {k : Pl} {c : Ct} (hk : hasD d k) (hc : okC c) (hcr : d.crashed = false) (hl : 0 ≤ d.left ∧ d.left ≤ 9223372036854775807) : Tie (doneD d k c) (doneR x k c) := by
  have hl' : (doneR x k c).l = putR x.l k c := by unfold doneR; split <;> rfl
  refine ⟨?_, ?_, ?_, ?_, ?_, ?_, ?_, ?_, ?_⟩
  · unfold doneR; split <;> exact h.r
  · unfold doneR; split <;> exact h.s
  · show (doneR x k c).crashed = (d.crashed || (d.armed && decide (d.left = 0)))
    unfold doneR
    rw [hcr]
    cases ha : d.armed
    · rw [if_neg (by rw [h.ar, ha]; simp)]
      show x.crashed = _
      rw [h.cr, hcr]; rfl
    · rw [h.ar, ha, h.lf ha]
      by_cases h0 : d.left = 0
      · rw [if_pos ⟨rfl, h0⟩]; simp [h0]
      · rw [if_neg (fun e => h0 e.2)]
        show x.crashed = _
        rw [h.cr, hcr]; simp [h0]
  · unfold doneR; split <;> exact h.ar
  · intro ha
    have ha' : d.armed = true := ha
    show (doneR x k c).left = if d.armed = true ∧ d.left ≠ 0 then d.left - 1 else d.left
    unfold doneR
    rw [h.ar, ha', h.lf ha']
    by_cases h0 : d.left = 0
    · rw [if_pos ⟨rfl, h0⟩, if_neg (fun e => e.2 h0)]
    · rw [if_neg (fun e => h0 e.2), if_pos ⟨rfl, h0⟩]
      show IntKind.i64.wrap (d.left - 1) = _
      simp [IntKind.wrap, IntKind.bits, IntKind.signed]; omega
  · rw [hl']; exact srt_putR _ _ h.srt
  · rw [hl', pend_putR _ _ h.srt, ← h.pend]; rfl
  · intro j
    rw [hl', safe_putR _ _ _ h.srt]; exact h.safe j
  · intro y hy
    rw [hl'] at hy
    rcases mem_putR hy with ⟨h1, h2, h3⟩ | hy
    · refine ⟨?_, by rw [h2]; exact hc, by rw [h1]; exact hk⟩
      rcases h3 with e | ⟨z, hz, e⟩
      · rw [e]; exact okC_zero
      · rw [e]; exact (h.ok z hz).1
    · exact h.ok y hy
theorem tie_write {d : Dev} {x : RD} (h : Tie d x) {k : Pl} {xs : List Nat} (hx : ∀ y ∈ xs, y < 256) (hl : 0 ≤ d.left ∧ d.left ≤ 9223372036854775807) : Tie (writeD d k xs) (writeR x d k xs) := by
  unfold writeD writeR
  split
  · exact h
  · rename_i hn
    simp only [not_or, Decidable.not_not, Bool.not_eq_true] at hn
    exact tie_done h hn.1 (okC_fill (by omega) hx) hn.2.2 hl
theorem tie_sync {d : Dev} {x : RD} (h : Tie d x) (g : Int) : Tie (syncD d g) (syncRD x d g) := by
  unfold syncD syncRD
  split
  · refine ⟨h.r, h.s, h.cr, h.ar, h.lf, srt_syncR h.srt, ?_, ?_, ?_⟩
    · show d.pend.filter _ = pendL (syncR g x.l)
      rw [pend_syncR, h.pend]
    · intro k
      show (if k.1 = g then (getP d.pend k).getD (d.safe k) else d.safe k) = safeL (syncR g x.l) k
      rw [safe_syncR h.srt, h.pend, h.safe k]
    · intro y hy
      obtain ⟨z, hz, e1, e2, e3⟩ := mem_syncR hy
      obtain ⟨k1, k2, k3⟩ := h.ok z hz
      refine ⟨?_, by rw [e2]; exact k2, by rw [e1]; exact k3⟩
      rcases e3 with e | e
      · rw [e]; exact k1
      · rw [e]; exact k2
  · exact h
theorem safe_of_mem {l : List RS} {y : RS} (h : SrtR l) (hy : y ∈ l) : safeL l y.key = y.safe := by
  induction l with
  | nil => cases hy
  | cons x r ih =>
    obtain ⟨h1, h2⟩ := srtR_cons h
    rw [safeL_cons]
    rcases List.mem_cons.1 hy with rfl | hy
    · simp
    · rw [if_neg (ltP_ne (h1 y hy)), ih h2 hy]
theorem findR_restR : ∀ (l : List RS) (ns : List Int) (k : Pl), (findR (restR l ns) k).isSome = (findR l k).isSome
  | [], _, _ => rfl
  | x :: r, ns, k => by
    unfold restR
    split <;> (rw [findR_cons, findR_cons]; split <;> first | rfl | exact findR_restR r _ k)
theorem tie_rest {d : Dev} {x : RD} (h : Tie d x) (ns : List Int) : Tie (restartD d ns) (restRD x ns) := by
  refine ⟨h.r, h.s, rfl, rfl, (fun e => Bool.noConfusion e), srt_restR ns h.srt, (pend_restR _ _).symm, ?_, ?_⟩
  · intro k
    show goR d.safe d.pend ns k = safeL (restR x.l ns) k
    rw [h.pend, safe_restR ns d.safe h.srt (fun y hy => by rw [h.safe, safe_of_mem h.srt hy]) k]
    split
    · rfl
    · rename_i hn
      rw [h.safe]
      unfold safeL
      have e1 := hn
      rw [← findR_restR x.l ns k] at e1
      simp only [Bool.not_eq_true, Option.isSome_eq_false_iff, Option.isNone_iff_eq_none] at hn e1
      rw [hn, e1]
  · intro y hy
    obtain ⟨z, hz, e1, e2, _, e3⟩ := mem_restR hy
    obtain ⟨k1, k2, k3⟩ := h.ok z hz
    refine ⟨?_, by rw [e2]; exact k2, by rw [e1]; exact k3⟩
    rcases e3 with e | ⟨n, e⟩
    · rw [e]; exact k1
    · rw [e]; exact okC_chosen k2 k1
/-- What the document reads. -/
def readR (l : List RS) (k : Pl) : Ct := match findR l k with | none => zeroC | some x => if x.pend = true then x.now else x.safe
theorem tie_read {d : Dev} {x : RD} (h : Tie d x) (k : Pl) : readR x.l k = readD d k := by
  unfold readR readD
  rw [h.pend, get_pendL k h.srt, h.safe k]
  unfold safeL
  cases findR x.l k with
  | none => rfl
  | some y => by_cases hp : y.pend = true <;> simp [hp]
theorem length_restR : ∀ (l : List RS) (ns : List Int), (restR l ns).length = l.length
  | [], _ => rfl
  | x :: r, ns => by unfold restR; split <;> simp [length_restR r]
theorem length_syncR (g : Int) (l : List RS) : (syncR g l).length = l.length := by simp [syncR]
end Go.Proofs.YtjnhcanohefjiaaGreatDoor

namespace Go.Proofs.YtjnhcanohefjiaaGreatDoor

theorem fillC_full {xs : List Nat} (h : xs.length ≤ 64) : (fillC xs).length = 64 := by simp [fillC]; omega
theorem fillC_twice {xs : List Nat} (h : xs.length ≤ 64) : fillC (fillC xs) = fillC xs := by
  have hl := fillC_full h
  show fillC xs ++ List.replicate (64 - (fillC xs).length) 0 = fillC xs
  rw [hl]; simp
theorem write_full (d : Dev) (k : Pl) {xs : List Nat} (h : xs.length ≤ 64) : writeD d k (fillC xs) = writeD d k xs := by
  unfold writeD
  rw [fillC_twice h, fillC_full h]
  have e1 : ¬ 64 < xs.length := by omega
  simp only [e1, Nat.lt_irrefl]
theorem wErr_full (d : Dev) (k : Pl) {n : Nat} (h : n ≤ 64) : wErr d k 64 = wErr d k n := by
  unfold wErr
  have e1 : ¬ 64 < n := by omega
  simp only [e1, Nat.lt_irrefl]
theorem nought_of_fill {c xs : List Nat} (h : c = fillC xs) : nought (c.drop xs.length) = true := by
  rw [h]
  unfold fillC nought
  rw [List.drop_left]
  simp
/-- One sector cleaned as the document does it. -/
def rclStep (a : Ar) (row : List Nat) (i : Nat) (s : Dev × Bool × Nat) : Dev × Bool × Nat :=
  if s.2.2 ≠ 0 then s
  else if rErr s.1 (atJ a i) ≠ 0 then (s.1, s.2.1, rErr s.1 (atJ a i))
  else if readD s.1 (atJ a i) = fillC (partJ row i) then s
  else if wErr s.1 (atJ a i) 64 ≠ 0 then (writeD s.1 (atJ a i) (fillC (partJ row i)), s.2.1, wErr s.1 (atJ a i) 64)
  else (writeD s.1 (atJ a i) (fillC (partJ row i)), true, 0)
def rclS (a : Ar) (row : List Nat) (d : Dev) : Nat → Dev × Bool × Nat
  | 0 => (d, false, 0)
  | i + 1 => rclStep a row i (rclS a row d i)
theorem rcl_eq {d0 : Dev} {a : Ar} {row : List Nat} (hok : okD d0) (hp : d0.pend = []) (hc : d0.crashed = false) (hin : inJ d0 a) (hx : ∀ x ∈ row, x < 256) (hb : Begins d0 a row) : ∀ i, i ≤ a.s.toNat → rclS a row d0 i = clnS a row d0 i
  | 0, _ => rfl
  | i + 1, hi => by
    have ih := rcl_eq hok hp hc hin hx hb i (by omega)
    have hI := cln_inv hok hp hc hin hx hb i (by omega)
    show rclStep a row i (rclS a row d0 i) = clnStep a row i (clnS a row d0 i)
    rw [ih]
    generalize clnS a row d0 i = s at hI ⊢
    have hle := partJ_le row i
    unfold rclStep clnStep
    rw [write_full _ _ hle, wErr_full _ _ hle]
    have hsame : readD s.1 (atJ a i) = readD d0 (atJ a i) := hI.wk.same hp (fun j _ hj => atJ_ne (by omega))
    have hlen : (readD s.1 (atJ a i)).length = 64 := (okC_read hI.wk.ok _).1
    have hbeg : (readD s.1 (atJ a i)).take (partJ row i).length = partJ row i := by rw [hsame]; exact hb i (by omega)
    by_cases hn : nought ((readD s.1 (atJ a i)).drop (partJ row i).length) = true
    · have he := nought_fill hlen hbeg hn
      rw [if_pos he, if_pos hn]
    · have he : ¬ readD s.1 (atJ a i) = fillC (partJ row i) := fun e => hn (nought_of_fill e)
      rw [if_neg he, if_neg hn]
/-- The sectors written as the document does it: all are gone through, and those passed over that are safe, or behind the row. -/
def rwrS (a : Ar) (row : List Nat) (sf : Nat) (d : Dev) : Nat → Dev × Nat
  | 0 => (d, 0)
  | i + 1 => if (rwrS a row sf d i).2 ≠ 0 then rwrS a row sf d i else if 64 * i + 63 < sf ∨ row.length ≤ 64 * i then rwrS a row sf d i else (writeD (rwrS a row sf d i).1 (atJ a i) (partJ row i), wErr (rwrS a row sf d i).1 (atJ a i) (partJ row i).length)
theorem rwr_skip (a : Ar) (row : List Nat) (sf : Nat) (d : Dev) : ∀ i, i ≤ sf / 64 → rwrS a row sf d i = (d, 0)
  | 0, _ => rfl
  | i + 1, hi => by
    have ih := rwr_skip a row sf d i (by omega)
    unfold rwrS
    rw [ih, if_neg (by simp), if_pos (.inl (by omega))]
theorem rwr_mid (a : Ar) (row : List Nat) (sf : Nat) (d : Dev) (hs : sf < row.length) : ∀ k, k ≤ cntJ row sf → rwrS a row sf d (sf / 64 + k) = wrtS a row (sf / 64) d k
  | 0, _ => rwr_skip a row sf d _ (Nat.le_refl _)
  | k + 1, hk => by
    have ih := rwr_mid a row sf d hs k (by omega)
    have h1 : ¬ (64 * (sf / 64 + k) + 63 < sf ∨ row.length ≤ 64 * (sf / 64 + k)) := by
      unfold cntJ at hk
      omega
    rw [show sf / 64 + (k + 1) = (sf / 64 + k) + 1 from rfl]
    unfold rwrS wrtS
    rw [ih, if_neg h1]
theorem rwr_rest (a : Ar) (row : List Nat) (sf : Nat) (d : Dev) (hs : sf < row.length) : ∀ k, rwrS a row sf d (sf / 64 + cntJ row sf + k) = wrtS a row (sf / 64) d (cntJ row sf)
  | 0 => rwr_mid a row sf d hs _ (Nat.le_refl _)
  | k + 1 => by
    have ih := rwr_rest a row sf d hs k
    have h1 : 64 * (sf / 64 + cntJ row sf + k) + 63 < sf ∨ row.length ≤ 64 * (sf / 64 + cntJ row sf + k) := .inr (by unfold cntJ; omega)
    rw [show sf / 64 + cntJ row sf + (k + 1) = (sf / 64 + cntJ row sf + k) + 1 from rfl]
    unfold rwrS
    rw [ih, if_pos h1]
    split <;> rfl
theorem rwr_eq (a : Ar) (row : List Nat) (sf : Nat) (d : Dev) (hs : sf < row.length) {n : Nat} (hl : row.length ≤ 64 * n) : rwrS a row sf d n = wrtS a row (sf / 64) d (cntJ row sf) := by
  have h := (cnt_le hs hl).2
  obtain ⟨k, hk⟩ : ∃ k, n = sf / 64 + cntJ row sf + k := ⟨n - (sf / 64 + cntJ row sf), by omega⟩
  rw [hk]
  exact rwr_rest a row sf d hs k
end Go.Proofs.YtjnhcanohefjiaaGreatDoor
