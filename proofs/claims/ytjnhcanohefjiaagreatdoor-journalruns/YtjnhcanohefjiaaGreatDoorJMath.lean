/- A journal's area on a device, plainly: what is cleaned and written, and what a crash leaves. -/
import Derived.Test.YtjnhcanohefjiaaGreatDoorTSave
namespace Go.Proofs.YtjnhcanohefjiaaGreatDoor

abbrev inJ (d : Dev) (a : Ar) : Prop := 0 ≤ a.g ∧ a.g < d.r ∧ 0 ≤ a.f ∧ 1 ≤ a.s ∧ a.s ≤ d.s ∧ a.f ≤ d.s - a.s
/-- An area's bytes; a row's part in a sector; where a sector lies. -/
def heldJ (d : Dev) (a : Ar) : List Nat := secsB d a.g a.f a.s.toNat
def partJ (xs : List Nat) (i : Nat) : List Nat := (xs.drop (64 * i)).take 64
def nought (xs : List Nat) : Bool := xs.all (fun x => decide (x = 0))
abbrev atJ (a : Ar) (i : Nat) : Pl := (a.g, a.f + (i : Int))
theorem inJ_has {d : Dev} {a : Ar} (h : inJ d a) {i : Nat} (hi : i < a.s.toNat) : hasD d (atJ a i) := by
  obtain ⟨h1, h2, h3, h4, h5, h6⟩ := h
  refine ⟨h1, h2, ?_, ?_⟩
  · show 0 ≤ a.f + (i : Int); omega
  · show a.f + (i : Int) < d.s; omega
theorem atJ_ne {a : Ar} {i j : Nat} (h : i ≠ j) : atJ a i ≠ atJ a j := by
  intro e
  simp only [atJ, Prod.mk.injEq, true_and] at e
  omega
theorem partJ_len (xs : List Nat) (i : Nat) : (partJ xs i).length = min 64 (xs.length - 64 * i) := by simp [partJ]
theorem partJ_le (xs : List Nat) (i : Nat) : (partJ xs i).length ≤ 64 := by rw [partJ_len]; omega
theorem partJ_byte {xs : List Nat} (h : ∀ x ∈ xs, x < 256) (i : Nat) : ∀ x ∈ partJ xs i, x < 256 := fun x hx => h x (List.mem_of_mem_drop (List.mem_of_mem_take hx))
theorem partJ_get (xs : List Nat) (i t : Nat) : (partJ xs i)[t]? = if t < 64 then xs[64 * i + t]? else none := by
  unfold partJ
  rw [List.getElem?_take]
  split
  · rw [List.getElem?_drop]
  · rfl
theorem fillC_get {xs : List Nat} (h : xs.length ≤ 64) (t : Nat) : (fillC xs)[t]? = if t < xs.length then xs[t]? else if t < 64 then some 0 else none := by
  unfold fillC
  rw [List.getElem?_append]
  split
  · rfl
  · rw [List.getElem?_replicate]
    by_cases h1 : t < 64
    · rw [if_pos (by omega), if_pos h1]
    · rw [if_neg (by omega), if_neg h1]
theorem fillC_get_lt {xs : List Nat} (h : xs.length ≤ 64) {t : Nat} (ht : t < xs.length) : (fillC xs)[t]? = xs[t]? := by rw [fillC_get h, if_pos ht]
theorem secsB_get {d : Dev} (h : okD d) (g f : Int) (n j : Nat) (hj : j < 64 * n) : (secsB d g f n)[j]? = (readD d (g, f + ((j / 64 : Nat) : Int)))[j % 64]? := by
  induction n with
  | zero => omega
  | succ n ih =>
    rw [secsB_snoc, List.getElem?_append, secsB_len h]
    by_cases h1 : j < 64 * n
    · rw [if_pos h1, ih h1]
    · rw [if_neg h1, show j / 64 = n by omega, show j - 64 * n = j % 64 by omega]
theorem held_get {d : Dev} (h : okD d) (a : Ar) (j : Nat) (hj : j < 64 * a.s.toNat) : (heldJ d a)[j]? = (readD d (atJ a (j / 64)))[j % 64]? := secsB_get h _ _ _ _ hj
theorem held_len {d : Dev} (h : okD d) (a : Ar) : (heldJ d a).length = 64 * a.s.toNat := secsB_len h _ _ _
theorem held_byte {d : Dev} (h : okD d) (a : Ar) : ∀ x ∈ heldJ d a, x < 256 := secsB_byte h _ _ _
/-- A row lies in an area, and noughts behind it. -/
def Lies (d : Dev) (a : Ar) (row : List Nat) : Prop := ∀ i : Nat, i < a.s.toNat → readD d (atJ a i) = fillC (partJ row i)
/-- An area begins with a row. -/
def Begins (d : Dev) (a : Ar) (row : List Nat) : Prop := ∀ i : Nat, i < a.s.toNat → (readD d (atJ a i)).take (partJ row i).length = partJ row i
theorem lies_held {d : Dev} {a : Ar} {row : List Nat} (hok : okD d) (h : Lies d a row) (hl : row.length ≤ 64 * a.s.toNat) : heldJ d a = row ++ List.replicate (64 * a.s.toNat - row.length) 0 := by
  apply List.ext_getElem?
  intro j
  by_cases hj : j < 64 * a.s.toNat
  · rw [held_get hok a j hj, h _ (by omega), fillC_get (partJ_le _ _), partJ_len, partJ_get, List.getElem?_append]
    have e : 64 * (j / 64) + j % 64 = j := by omega
    rw [e]
    by_cases hr : j < row.length
    · rw [if_pos (by omega), if_pos (by omega), if_pos hr]
    · rw [if_neg (by omega), if_pos (by omega), if_neg hr, List.getElem?_replicate, if_pos (by omega)]
  · rw [List.getElem?_eq_none (by rw [held_len hok]; omega), List.getElem?_eq_none (by simp; omega)]
theorem begins_nil (d : Dev) (a : Ar) : Begins d a [] := fun i _ => by simp [partJ]
theorem partJ_take (xs : List Nat) (n i : Nat) : partJ (xs.take n) i = (partJ xs i).take (n - 64 * i) := by
  apply List.ext_getElem?
  intro t
  rw [partJ_get, List.getElem?_take, List.getElem?_take, partJ_get]
  by_cases h1 : t < 64
  · rw [if_pos h1]
    by_cases h2 : 64 * i + t < n
    · rw [if_pos h2, if_pos (by omega), if_pos h1]
    · rw [if_neg h2, if_neg (by omega)]
  · rw [if_neg h1]; split <;> simp
theorem begins_lies {d : Dev} {a : Ar} {row : List Nat} (h : Lies d a row) (n : Nat) : Begins d a (row.take n) := by
  intro i hi
  rw [h i hi, partJ_take]
  apply List.ext_getElem?
  intro t
  rw [List.getElem?_take, List.length_take, List.getElem?_take]
  by_cases h1 : t < min (n - 64 * i) (partJ row i).length
  · rw [if_pos h1, if_pos (by omega), fillC_get_lt (partJ_le _ _) (by omega)]
  · rw [if_neg h1]
    split
    · rw [List.getElem?_eq_none (by omega)]
    · rfl
theorem begins_held {d : Dev} {a : Ar} (hok : okD d) (n : Nat) : Begins d a ((heldJ d a).take n) := by
  intro i hi
  have e : partJ (heldJ d a) i = readD d (atJ a i) := by
    apply List.ext_getElem?
    intro t
    rw [partJ_get]
    have hc := (okC_read hok (atJ a i)).1
    by_cases h1 : t < 64
    · rw [if_pos h1, held_get hok _ _ (by omega), show (64 * i + t) / 64 = i by omega, show (64 * i + t) % 64 = t by omega]
    · rw [if_neg h1, List.getElem?_eq_none (by omega)]
  rw [partJ_take, e, List.length_take]
  rw [(okC_read hok (atJ a i)).1]
  apply List.ext_getElem?
  intro t
  have hc := (okC_read hok (atJ a i)).1
  rw [List.getElem?_take, List.getElem?_take]
  by_cases h1 : t < min (n - 64 * i) 64
  · rw [if_pos h1, if_pos (by omega)]
  · rw [if_neg h1]
    split
    · rw [List.getElem?_eq_none (by omega)]
    · rfl
theorem nought_fill {c xs : List Nat} (hc : c.length = 64) (hb : c.take xs.length = xs) (hn : nought (c.drop xs.length) = true) : c = fillC xs := by
  have hl : xs.length ≤ 64 := by
    have := congrArg List.length hb
    rw [List.length_take] at this; omega
  have hz : c.drop xs.length = List.replicate (64 - xs.length) 0 := by
    apply List.eq_replicate_iff.2
    refine ⟨by rw [List.length_drop, hc], fun x hx => ?_⟩
    have := List.all_eq_true.1 hn x hx
    simpa using this
  conv => lhs; rw [← List.take_append_drop xs.length c]
  rw [hb, hz]; rfl
theorem read_rest {d : Dev} (h : d.pend = []) (k : Pl) : readD d k = d.safe k := by unfold readD; rw [h]; rfl
/-- A write that is no error's. -/
theorem wErr_zero {d : Dev} {k : Pl} {n : Nat} (h : wErr d k n = 0) : hasD d k ∧ n ≤ 64 ∧ d.crashed = false ∧ ¬ (d.armed = true ∧ d.left = 0) := by
  unfold wErr at h
  split at h
  · cases h
  · rename_i h1
    split at h
    · cases h
    · rename_i h2
      split at h
      · cases h
      · rename_i h3
        split at h
        · cases h
        · rename_i h4
          exact ⟨Decidable.not_not.1 h1, by omega, by simpa using h3, h4⟩
theorem wErr_calm {d : Dev} {k : Pl} {n : Nat} (h : hasD d k) (hn : n ≤ 64) (hc : d.crashed = false) (ha : d.armed = false) : wErr d k n = 0 := by
  unfold wErr
  rw [if_neg (fun e => e h), if_neg (by omega), if_neg (by simp [hc]), if_neg (by simp [ha])]
theorem write_stays (d : Dev) (k : Pl) (xs : List Nat) : (writeD d k xs).safe = d.safe ∧ (writeD d k xs).r = d.r ∧ (writeD d k xs).s = d.s ∧ (writeD d k xs).armed = d.armed ∧ ∀ j, j ≠ k → getP (writeD d k xs).pend j = getP d.pend j := by
  unfold writeD
  split
  · exact ⟨rfl, rfl, rfl, rfl, fun _ _ => rfl⟩
  · exact ⟨rfl, rfl, rfl, rfl, fun j hj => getP_put_other _ _ _ _ hj⟩
theorem write_at (d : Dev) (k : Pl) (xs : List Nat) : getP (writeD d k xs).pend k = getP d.pend k ∨ getP (writeD d k xs).pend k = some (fillC xs) := by
  unfold writeD
  split
  · exact .inl rfl
  · exact .inr (getP_put_same _ _ _)
theorem write_good {d : Dev} {k : Pl} {xs : List Nat} (h : wErr d k xs.length = 0) : (writeD d k xs).crashed = false ∧ getP (writeD d k xs).pend k = some (fillC xs) := by
  obtain ⟨h1, h2, h3, h4⟩ := wErr_zero h
  unfold writeD
  rw [if_neg (by rintro (e | e | e); exact e h1; omega; simp [h3] at e)]
  refine ⟨?_, getP_put_same _ _ _⟩
  show (d.crashed || (d.armed && decide (d.left = 0))) = false
  rw [h3]
  cases ha : d.armed
  · rfl
  · simp only [Bool.true_and, Bool.false_or, decide_eq_false_iff_not]
    exact fun e => h4 ⟨ha, e⟩
/-- Work on an area: what was written lies in those sectors that were worked on. -/
structure Wk (d0 : Dev) (a : Ar) (row : List Nat) (lo hi : Nat) (d : Dev) : Prop where
  safe : d.safe = d0.safe
  rs : d.r = d0.r ∧ d.s = d0.s
  ok : okD d
  non : ∀ k, (∀ j : Nat, lo ≤ j → j < hi → k ≠ atJ a j) → getP d.pend k = none
  fil : ∀ j : Nat, ∀ c, getP d.pend (atJ a j) = some c → c = fillC (partJ row j)
theorem Wk.start {d : Dev} {a : Ar} {row : List Nat} (lo : Nat) (hok : okD d) (hp : d.pend = []) : Wk d a row lo lo d :=
  ⟨rfl, ⟨rfl, rfl⟩, hok, fun k _ => by rw [hp]; rfl, fun j c h => by rw [hp] at h; cases h⟩
theorem Wk.skip {d0 d : Dev} {a : Ar} {row : List Nat} {lo hi : Nat} (h : Wk d0 a row lo hi d) : Wk d0 a row lo (hi + 1) d :=
  ⟨h.safe, h.rs, h.ok, fun k hk => h.non k (fun j h1 h2 => hk j h1 (by omega)), h.fil⟩
theorem Wk.write {d0 d : Dev} {a : Ar} {row : List Nat} {lo hi : Nat} (h : Wk d0 a row lo hi d) (hlo : lo ≤ hi) (hx : ∀ x ∈ row, x < 256) : Wk d0 a row lo (hi + 1) (writeD d (atJ a hi) (partJ row hi)) := by
  obtain ⟨w1, w2, w3, _, w5⟩ := write_stays d (atJ a hi) (partJ row hi)
  refine ⟨w1.trans h.safe, ⟨w2.trans h.rs.1, w3.trans h.rs.2⟩, okD_write h.ok (partJ_byte hx _), fun k hk => ?_, fun j c hc => ?_⟩
  · rw [w5 k (hk hi hlo (by omega))]
    exact h.non k (fun j h1 h2 => hk j h1 (by omega))
  · by_cases e : j = hi
    · subst e
      rcases write_at d (atJ a j) (partJ row j) with q | q
      · rw [q] at hc; exact h.fil j c hc
      · rw [q] at hc; cases hc; rfl
    · rw [w5 _ (atJ_ne e)] at hc
      exact h.fil j c hc
theorem Wk.region {d0 d : Dev} {a : Ar} {row : List Nat} {lo hi : Nat} (h : Wk d0 a row lo hi d) : ∀ x ∈ d.pend, x.1.1 = a.g := by
  intro x hx
  apply Decidable.byContradiction
  intro hne
  have h1 := getP_of_mem h.ok.srt (show (x.1, x.2) ∈ d.pend from hx)
  rw [h.non x.1 (fun j _ _ e => hne (by rw [e]))] at h1
  cases h1
/-- Behind the sync. -/
theorem Wk.sync {d0 d : Dev} {a : Ar} {row : List Nat} {lo hi : Nat} (h : Wk d0 a row lo hi d) : (syncedD d a.g).pend = [] ∧ okD (syncedD d a.g) ∧ ∀ k, readD (syncedD d a.g) k = readD d k := by
  have hp : (syncedD d a.g).pend = [] := by
    show d.pend.filter _ = []
    rw [List.filter_eq_nil_iff]
    intro x hx
    simp [h.region x hx]
  have hr : ∀ k, readD (syncedD d a.g) k = readD d k := fun k => by
    rw [read_rest hp]
    show (if k.1 = a.g then (getP d.pend k).getD (d.safe k) else d.safe k) = _
    split
    · rfl
    · rename_i hne
      have : getP d.pend k = none := h.non k (fun j _ _ e => hne (by rw [e]))
      unfold readD
      rw [this]; rfl
  refine ⟨hp, ⟨by rw [hp]; exact List.Pairwise.nil, fun x hx => (by rw [hp] at hx; cases hx), fun k => ?_, fun x hx => (by rw [hp] at hx; cases hx)⟩, hr⟩
  rw [← read_rest hp k, hr]
  exact okC_read h.ok k
/-- One sector cleaned: the device, whether one was written, the error's number. -/
def clnStep (a : Ar) (row : List Nat) (i : Nat) (s : Dev × Bool × Nat) : Dev × Bool × Nat :=
  if s.2.2 ≠ 0 then s
  else if rErr s.1 (atJ a i) ≠ 0 then (s.1, s.2.1, rErr s.1 (atJ a i))
  else if nought ((readD s.1 (atJ a i)).drop (partJ row i).length) = true then s
  else if wErr s.1 (atJ a i) (partJ row i).length ≠ 0 then (writeD s.1 (atJ a i) (partJ row i), s.2.1, wErr s.1 (atJ a i) (partJ row i).length)
  else (writeD s.1 (atJ a i) (partJ row i), true, 0)
def clnS (a : Ar) (row : List Nat) (d : Dev) : Nat → Dev × Bool × Nat
  | 0 => (d, false, 0)
  | i + 1 => clnStep a row i (clnS a row d i)
/-- What is left when all sectors are cleaned, and the error's number. -/
def cleanD (a : Ar) (row : List Nat) (d : Dev) : Dev := if (clnS a row d a.s.toNat).2.2 ≠ 0 then (clnS a row d a.s.toNat).1 else if (clnS a row d a.s.toNat).2.1 = true then syncD (clnS a row d a.s.toNat).1 a.g else (clnS a row d a.s.toNat).1
def cleanE (a : Ar) (row : List Nat) (d : Dev) : Nat := if (clnS a row d a.s.toNat).2.2 ≠ 0 then (clnS a row d a.s.toNat).2.2 else if (clnS a row d a.s.toNat).2.1 = true then sErr (clnS a row d a.s.toNat).1 a.g else 0
theorem cln_stop (a : Ar) (row : List Nat) (d : Dev) (i k : Nat) (h : (clnS a row d i).2.2 ≠ 0) : clnS a row d (i + k) = clnS a row d i := by
  induction k with
  | zero => rfl
  | succ k ih =>
    show clnStep a row (i + k) (clnS a row d (i + k)) = _
    rw [ih]
    unfold clnStep
    rw [if_pos h]
structure ClI (d0 : Dev) (a : Ar) (row : List Nat) (i : Nat) (s : Dev × Bool × Nat) : Prop where
  wk : Wk d0 a row 0 i s.1
  good : s.2.2 = 0 → s.1.crashed = false ∧ ∀ j : Nat, j < i → readD s.1 (atJ a j) = fillC (partJ row j)
  wr : s.2.2 = 0 → s.2.1 = false → s.1.pend = [] ∧ s.1 = d0
  arm : d0.armed = false → s.1.armed = false ∧ s.2.2 = 0
theorem read_write_other (d : Dev) (k j : Pl) (xs : List Nat) (h : j ≠ k) : readD (writeD d k xs) j = readD d j := by
  obtain ⟨w1, _, _, _, w5⟩ := write_stays d k xs
  unfold readD
  rw [w1, w5 j h]
theorem Wk.same {d0 d : Dev} {a : Ar} {row : List Nat} {lo hi : Nat} (h : Wk d0 a row lo hi d) (hp : d0.pend = []) {k : Pl} (hk : ∀ j : Nat, lo ≤ j → j < hi → k ≠ atJ a j) : readD d k = readD d0 k := by
  rw [read_rest hp]
  unfold readD
  rw [h.non k hk, h.safe]; rfl
theorem cln_inv {d0 : Dev} {a : Ar} {row : List Nat} (hok : okD d0) (hp : d0.pend = []) (hc : d0.crashed = false) (hin : inJ d0 a) (hx : ∀ x ∈ row, x < 256) (hb : Begins d0 a row) : ∀ i, i ≤ a.s.toNat → ClI d0 a row i (clnS a row d0 i)
  | 0, _ => ⟨Wk.start 0 hok hp, fun _ => ⟨hc, fun j hj => by omega⟩, fun _ _ => ⟨hp, rfl⟩, fun h => ⟨h, rfl⟩⟩
  | i + 1, hi => by
    have ih := cln_inv hok hp hc hin hx hb i (by omega)
    show ClI d0 a row (i + 1) (clnStep a row i (clnS a row d0 i))
    generalize clnS a row d0 i = s at ih ⊢
    have hin' : inJ s.1 a := by unfold inJ; rw [ih.wk.rs.1, ih.wk.rs.2]; exact hin
    have hhas := inJ_has hin' (show i < a.s.toNat by omega)
    unfold clnStep
    by_cases h1 : s.2.2 ≠ 0
    · rw [if_pos h1]
      exact ⟨ih.wk.skip, fun h => absurd h h1, fun h => absurd h h1, fun h => absurd (ih.arm h).2 h1⟩
    rw [if_neg h1]
    have h0 : s.2.2 = 0 := by simpa using h1
    obtain ⟨g1, g2⟩ := ih.good h0
    have hr : rErr s.1 (atJ a i) = 0 := by unfold rErr; rw [if_neg (fun e => e hhas), if_neg (by simp [g1])]
    rw [if_neg (by omega)]
    have hsame : readD s.1 (atJ a i) = readD d0 (atJ a i) := ih.wk.same hp (fun j _ hj => atJ_ne (by omega))
    by_cases h2 : nought ((readD s.1 (atJ a i)).drop (partJ row i).length) = true
    · rw [if_pos h2]
      refine ⟨ih.wk.skip, fun _ => ⟨g1, fun j hj => ?_⟩, ih.wr, ih.arm⟩
      by_cases e : j = i
      · subst e
        exact nought_fill (okC_read ih.wk.ok _).1 (by rw [hsame]; exact hb j (by omega)) h2
      · exact g2 j (by omega)
    rw [if_neg h2]
    by_cases h3 : wErr s.1 (atJ a i) (partJ row i).length ≠ 0
    · rw [if_pos h3]
      refine ⟨ih.wk.write (Nat.zero_le _) hx, fun h => absurd h h3, fun h => absurd h h3, fun h => ?_⟩
      exact absurd (wErr_calm hhas (partJ_le _ _) g1 (ih.arm h).1) h3
    rw [if_neg h3]
    have h3' : wErr s.1 (atJ a i) (partJ row i).length = 0 := by simpa using h3
    obtain ⟨w1, w2⟩ := write_good h3'
    refine ⟨ih.wk.write (Nat.zero_le _) hx, fun _ => ⟨w1, fun j hj => ?_⟩, fun _ h => (by cases h), fun h => ⟨(write_stays _ _ _).2.2.2.1.trans (ih.arm h).1, rfl⟩⟩
    by_cases e : j = i
    · subst e
      unfold readD
      rw [w2]; rfl
    · rw [read_write_other _ _ _ _ (atJ_ne e)]
      exact g2 j (by omega)
theorem sErr_zero {d : Dev} {a : Ar} (h : inJ d a) (hc : d.crashed = false) : sErr d a.g = 0 := by
  unfold sErr
  rw [if_neg (fun e => e ⟨h.1, h.2.1⟩), if_neg (by simp [hc])]
/-- Where cleaning goes well, the row lies there, and noughts behind it. -/
theorem clean_good {d : Dev} {a : Ar} {row : List Nat} (hok : okD d) (hp : d.pend = []) (hc : d.crashed = false) (hin : inJ d a) (hx : ∀ x ∈ row, x < 256) (hb : Begins d a row) (he : cleanE a row d = 0) :
    (cleanD a row d).pend = [] ∧ (cleanD a row d).crashed = false ∧ okD (cleanD a row d) ∧ Lies (cleanD a row d) a row ∧ (cleanD a row d).r = d.r ∧ (cleanD a row d).s = d.s := by
  have hi := cln_inv hok hp hc hin hx hb a.s.toNat (Nat.le_refl _)
  unfold cleanE at he
  unfold cleanD
  generalize clnS a row d a.s.toNat = s at *
  by_cases h1 : s.2.2 ≠ 0
  · rw [if_pos h1] at he; exact absurd he h1
  have h0 : s.2.2 = 0 := by simpa using h1
  rw [if_neg h1]
  obtain ⟨g1, g2⟩ := hi.good h0
  by_cases h2 : s.2.1 = true
  · rw [if_pos h2]
    have hin' : inJ s.1 a := by unfold inJ; rw [hi.wk.rs.1, hi.wk.rs.2]; exact hin
    have hs := sErr_zero hin' g1
    unfold syncD
    rw [if_pos hs]
    obtain ⟨s1, s2, s3⟩ := hi.wk.sync
    exact ⟨s1, g1, s2, fun i hi' => (s3 _).trans (g2 i hi'), hi.wk.rs.1, hi.wk.rs.2⟩
  · rw [if_neg h2]
    have h2' : s.2.1 = false := by simpa using h2
    exact ⟨(hi.wr h0 h2').1, g1, hi.wk.ok, g2, hi.wk.rs.1, hi.wk.rs.2⟩
theorem clean_calm {d : Dev} {a : Ar} {row : List Nat} (hok : okD d) (hp : d.pend = []) (hc : d.crashed = false) (hin : inJ d a) (hx : ∀ x ∈ row, x < 256) (hb : Begins d a row) (ha : d.armed = false) :
    cleanE a row d = 0 ∧ (cleanD a row d).armed = false := by
  have hi := cln_inv hok hp hc hin hx hb a.s.toNat (Nat.le_refl _)
  unfold cleanE cleanD
  generalize clnS a row d a.s.toNat = s at *
  obtain ⟨a1, a2⟩ := hi.arm ha
  have h0 : ¬ s.2.2 ≠ 0 := fun e => e a2
  have hin' : inJ s.1 a := by unfold inJ; rw [hi.wk.rs.1, hi.wk.rs.2]; exact hin
  have hs := sErr_zero hin' (hi.good a2).1
  simp only [if_neg h0]
  by_cases h2 : s.2.1 = true
  · simp only [if_pos h2]
    refine ⟨hs, ?_⟩
    unfold syncD
    rw [if_pos hs]
    exact a1
  · simp only [if_neg h2]
    exact ⟨trivial, a1⟩
/-- Sectors written one behind the other, up to the first error. -/
def wrtS (a : Ar) (row : List Nat) (f : Nat) (d : Dev) : Nat → Dev × Nat
  | 0 => (d, 0)
  | k + 1 => if (wrtS a row f d k).2 ≠ 0 then wrtS a row f d k else (writeD (wrtS a row f d k).1 (atJ a (f + k)) (partJ row (f + k)), wErr (wrtS a row f d k).1 (atJ a (f + k)) (partJ row (f + k)).length)
/-- How many sectors are written of a row of which so many bytes are safe. -/
def cntJ (row : List Nat) (sf : Nat) : Nat := (row.length - 1) / 64 + 1 - sf / 64
def wrtD (a : Ar) (row : List Nat) (sf : Nat) (d : Dev) : Dev := if (wrtS a row (sf / 64) d (cntJ row sf)).2 ≠ 0 then (wrtS a row (sf / 64) d (cntJ row sf)).1 else syncD (wrtS a row (sf / 64) d (cntJ row sf)).1 a.g
def wrtE (a : Ar) (row : List Nat) (sf : Nat) (d : Dev) : Nat := if (wrtS a row (sf / 64) d (cntJ row sf)).2 ≠ 0 then (wrtS a row (sf / 64) d (cntJ row sf)).2 else sErr (wrtS a row (sf / 64) d (cntJ row sf)).1 a.g
theorem wrt_stop (a : Ar) (row : List Nat) (f : Nat) (d : Dev) (i k : Nat) (h : (wrtS a row f d i).2 ≠ 0) : wrtS a row f d (i + k) = wrtS a row f d i := by
  induction k with
  | zero => rfl
  | succ k ih =>
    show (if (wrtS a row f d (i + k)).2 ≠ 0 then wrtS a row f d (i + k) else _) = _
    rw [ih, if_pos h]
structure WrI (d0 : Dev) (a : Ar) (row : List Nat) (f k : Nat) (s : Dev × Nat) : Prop where
  wk : Wk d0 a row f (f + k) s.1
  good : s.2 = 0 → s.1.crashed = false ∧ ∀ j : Nat, f ≤ j → j < f + k → readD s.1 (atJ a j) = fillC (partJ row j)
  arm : d0.armed = false → s.1.armed = false ∧ s.2 = 0
theorem wrt_inv {d0 : Dev} {a : Ar} {row : List Nat} {f : Nat} (hok : okD d0) (hp : d0.pend = []) (hc : d0.crashed = false) (hin : inJ d0 a) (hx : ∀ x ∈ row, x < 256) : ∀ k, f + k ≤ a.s.toNat → WrI d0 a row f k (wrtS a row f d0 k)
  | 0, _ => ⟨Wk.start f hok hp, fun _ => ⟨hc, fun j h1 h2 => by omega⟩, fun h => ⟨h, rfl⟩⟩
  | k + 1, hk => by
    have ih := wrt_inv (f := f) hok hp hc hin hx k (by omega)
    show WrI d0 a row f (k + 1) (if (wrtS a row f d0 k).2 ≠ 0 then wrtS a row f d0 k else (writeD (wrtS a row f d0 k).1 (atJ a (f + k)) (partJ row (f + k)), wErr (wrtS a row f d0 k).1 (atJ a (f + k)) (partJ row (f + k)).length))
    generalize wrtS a row f d0 k = s at ih ⊢
    have hin' : inJ s.1 a := by unfold inJ; rw [ih.wk.rs.1, ih.wk.rs.2]; exact hin
    have hhas := inJ_has hin' (show f + k < a.s.toNat by omega)
    by_cases h1 : s.2 ≠ 0
    · rw [if_pos h1]
      exact ⟨ih.wk.skip, fun h => absurd h h1, fun h => absurd (ih.arm h).2 h1⟩
    rw [if_neg h1]
    have h0 : s.2 = 0 := by simpa using h1
    obtain ⟨g1, g2⟩ := ih.good h0
    refine ⟨ih.wk.write (by omega) hx, fun h => ?_, fun h => ⟨(write_stays _ _ _).2.2.2.1.trans (ih.arm h).1, wErr_calm hhas (partJ_le _ _) g1 (ih.arm h).1⟩⟩
    obtain ⟨w1, w2⟩ := write_good h
    refine ⟨w1, fun j j1 j2 => ?_⟩
    by_cases e : j = f + k
    · subst e
      show readD (writeD s.1 (atJ a (f + k)) (partJ row (f + k))) (atJ a (f + k)) = _
      unfold readD
      rw [w2]; rfl
    · show readD (writeD s.1 (atJ a (f + k)) (partJ row (f + k))) (atJ a j) = _
      rw [read_write_other _ _ _ _ (atJ_ne e)]
      exact g2 j j1 (by omega)
theorem cnt_le {row : List Nat} {sf s : Nat} (hs : sf < row.length) (hl : row.length ≤ 64 * s) : sf / 64 + cntJ row sf = (row.length - 1) / 64 + 1 ∧ sf / 64 + cntJ row sf ≤ s := by
  unfold cntJ
  omega
theorem partJ_same {row : List Nat} {sf j : Nat} (h : 64 * j + 64 ≤ sf) : partJ (row.take sf) j = partJ row j := by
  rw [partJ_take, List.take_of_length_le (by have := partJ_le row j; omega)]
/-- Where writing goes well, the whole row lies there. -/
theorem wrt_good {d : Dev} {a : Ar} {row : List Nat} {sf : Nat} (hok : okD d) (hp : d.pend = []) (hc : d.crashed = false) (hin : inJ d a) (hx : ∀ x ∈ row, x < 256) (hs : sf < row.length) (hl : row.length ≤ 64 * a.s.toNat) (hb : Lies d a (row.take sf)) (he : wrtE a row sf d = 0) :
    (wrtD a row sf d).pend = [] ∧ (wrtD a row sf d).crashed = false ∧ okD (wrtD a row sf d) ∧ Lies (wrtD a row sf d) a row ∧ (wrtD a row sf d).r = d.r ∧ (wrtD a row sf d).s = d.s := by
  obtain ⟨c1, c2⟩ := cnt_le hs hl
  have hi := wrt_inv (f := sf / 64) hok hp hc hin hx (cntJ row sf) c2
  unfold wrtE at he
  unfold wrtD
  generalize wrtS a row (sf / 64) d (cntJ row sf) = s at *
  by_cases h1 : s.2 ≠ 0
  · rw [if_pos h1] at he; exact absurd he h1
  have h0 : s.2 = 0 := by simpa using h1
  rw [if_neg h1]
  obtain ⟨g1, g2⟩ := hi.good h0
  have hin' : inJ s.1 a := by unfold inJ; rw [hi.wk.rs.1, hi.wk.rs.2]; exact hin
  have hs' := sErr_zero hin' g1
  unfold syncD
  rw [if_pos hs']
  obtain ⟨s1, s2, s3⟩ := hi.wk.sync
  refine ⟨s1, g1, s2, fun i hi' => ?_, hi.wk.rs.1, hi.wk.rs.2⟩
  rw [s3]
  by_cases hlo : sf / 64 ≤ i
  · by_cases hhi : i < sf / 64 + cntJ row sf
    · exact g2 i hlo hhi
    · rw [hi.wk.same hp (fun j _ hj => atJ_ne (by omega)), hb i hi']
      have e1 : partJ row i = [] := List.eq_nil_of_length_eq_zero (by rw [partJ_len]; omega)
      rw [partJ_take, e1, List.take_nil]
  · rw [hi.wk.same hp (fun j hj _ => atJ_ne (by omega)), hb i hi', partJ_same (by omega)]
theorem wrt_calm {d : Dev} {a : Ar} {row : List Nat} {sf : Nat} (hok : okD d) (hp : d.pend = []) (hc : d.crashed = false) (hin : inJ d a) (hx : ∀ x ∈ row, x < 256) (hs : sf < row.length) (hl : row.length ≤ 64 * a.s.toNat) (ha : d.armed = false) :
    wrtE a row sf d = 0 ∧ (wrtD a row sf d).armed = false := by
  obtain ⟨c1, c2⟩ := cnt_le hs hl
  have hi := wrt_inv (f := sf / 64) hok hp hc hin hx (cntJ row sf) c2
  unfold wrtE wrtD
  generalize wrtS a row (sf / 64) d (cntJ row sf) = s at *
  obtain ⟨a1, a2⟩ := hi.arm ha
  have h0 : ¬ s.2 ≠ 0 := fun e => e a2
  have hin' : inJ s.1 a := by unfold inJ; rw [hi.wk.rs.1, hi.wk.rs.2]; exact hin
  have hs := sErr_zero hin' (hi.good a2).1
  simp only [if_neg h0]
  refine ⟨hs, ?_⟩
  unfold syncD
  rw [if_pos hs]
  exact a1
/-- What a restart makes of a sector. -/
theorem goR_at : ∀ (l : List (Pl × Ct)) (ns : List Int) (f : Pl → Ct) (k : Pl), SrtP l → goR f l ns k = f k ∨ ∃ n c, getP l k = some c ∧ goR f l ns k = chosenC n c (f k)
  | [], _, f, k, _ => .inl rfl
  | x :: r, [], f, k, _ => .inl rfl
  | x :: r, n :: ns, f, k, hs => by
    obtain ⟨h1, h2⟩ := List.pairwise_cons.1 hs
    show goR (updC f x.1 (chosenC n x.2 (f x.1))) r ns k = f k ∨ _
    by_cases e : x.1 = k
    · right
      refine ⟨n, x.2, by rw [getP_cons, if_pos e], ?_⟩
      show goR (updC f x.1 (chosenC n x.2 (f x.1))) r ns k = _
      have hn : getP r k = none := by
        cases hg : getP r k with
        | none => rfl
        | some c =>
          have := h1 _ (getP_mem hg)
          rw [e] at this
          exact absurd this (ltP_irrefl k)
      rw [goR_other r ns _ k hn, e]
      simp [updC]
    · rcases goR_at r ns (updC f x.1 (chosenC n x.2 (f x.1))) k h2 with q | ⟨m, c, q1, q2⟩
      · left
        rw [q]
        simp [updC, Ne.symm e]
      · right
        refine ⟨m, c, by rw [getP_cons, if_neg e]; exact q1, ?_⟩
        show goR (updC f x.1 (chosenC n x.2 (f x.1))) r ns k = _
        rw [q2]
        simp [updC, Ne.symm e]
theorem chosenC_get {n : Int} {a b : Ct} (ha : a.length = 64) {t : Nat} (h : a[t]? = b[t]?) : (chosenC n a b)[t]? = b[t]? := by
  unfold chosenC
  split
  · exact h
  · split
    · unfold tornC
      rw [List.getElem?_append, List.length_take]
      by_cases h1 : t < 32
      · rw [if_pos (by omega), List.getElem?_take, if_pos h1, h]
      · rw [if_neg (by omega), List.getElem?_drop]
        congr 1
        omega
    · rfl
theorem restart_rest (d : Dev) (ns : List Int) : (restartD d ns).pend = [] ∧ (restartD d ns).crashed = false ∧ (restartD d ns).armed = false := ⟨rfl, rfl, rfl⟩
theorem okD_restart' {d : Dev} (h : okD d) (ns : List Int) : okD (restartD d ns) :=
  ⟨List.Pairwise.nil, fun x hx => (by cases hx), okC_goR _ _ _ h.pend h.safe, fun x hx => (by cases hx)⟩
/-- Whatever becomes of a write behind a crash: the bytes that were safe are there. -/
theorem wrt_crash {d : Dev} {a : Ar} {row : List Nat} {sf : Nat} (hok : okD d) (hp : d.pend = []) (hc : d.crashed = false) (hin : inJ d a) (hx : ∀ x ∈ row, x < 256) (hs : sf < row.length) (hl : row.length ≤ 64 * a.s.toNat) (hb : Lies d a (row.take sf)) (ns : List Int) :
    okD (restartD (wrtD a row sf d) ns) ∧ (restartD (wrtD a row sf d) ns).r = d.r ∧ (restartD (wrtD a row sf d) ns).s = d.s ∧ (heldJ (restartD (wrtD a row sf d) ns) a).take sf = row.take sf := by
  obtain ⟨c1, c2⟩ := cnt_le hs hl
  have hi := wrt_inv (f := sf / 64) hok hp hc hin hx (cntJ row sf) c2
  -- what a sector holds then
  have main : ∀ d2 : Dev, okD d2 → d2.pend = [] → (∀ j : Nat, j < a.s.toNat → ∀ t : Nat, 64 * j + t < sf → t < 64 → (readD d2 (atJ a j))[t]? = row[64 * j + t]?) → (heldJ d2 a).take sf = row.take sf := by
    intro d2 hok2 hp2 hh
    apply List.ext_getElem?
    intro j
    rw [List.getElem?_take, List.getElem?_take]
    by_cases hj : j < sf
    · rw [if_pos hj, if_pos hj, held_get hok2 a j (by omega), hh (j / 64) (by omega) (j % 64) (by omega) (by omega)]
      congr 1
      omega
    · rw [if_neg hj, if_neg hj]
  have old : ∀ j : Nat, j < a.s.toNat → ∀ t : Nat, 64 * j + t < sf → t < 64 → (fillC (partJ (row.take sf) j))[t]? = row[64 * j + t]? := by
    intro j hj t ht ht2
    rw [fillC_get_lt (partJ_le _ _) (by rw [partJ_len, List.length_take]; omega), partJ_get, if_pos ht2, List.getElem?_take, if_pos ht]
  have new : ∀ j : Nat, j < a.s.toNat → ∀ t : Nat, 64 * j + t < sf → t < 64 → (fillC (partJ row j))[t]? = row[64 * j + t]? := by
    intro j hj t ht ht2
    rw [fillC_get_lt (partJ_le _ _) (by rw [partJ_len]; omega), partJ_get, if_pos ht2]
  have hread : ∀ j : Nat, j < a.s.toNat → d.safe (atJ a j) = fillC (partJ (row.take sf) j) := fun j hj => by rw [← read_rest hp, hb j hj]
  unfold wrtD
  generalize wrtS a row (sf / 64) d (cntJ row sf) = s at *
  by_cases h1 : s.2 ≠ 0
  · rw [if_pos h1]
    refine ⟨okD_restart' hi.wk.ok ns, hi.wk.rs.1, hi.wk.rs.2, main _ (okD_restart' hi.wk.ok ns) rfl fun j hj t ht ht2 => ?_⟩
    rw [read_rest rfl]
    show (goR s.1.safe s.1.pend ns (atJ a j))[t]? = _
    rcases goR_at s.1.pend ns s.1.safe (atJ a j) hi.wk.ok.srt with q | ⟨n, c, q1, q2⟩
    · rw [q, hi.wk.safe, hread j hj]
      exact old j hj t ht ht2
    · have e := hi.wk.fil j c q1
      rw [q2, hi.wk.safe, hread j hj, e, chosenC_get (okC_fill (partJ_le _ _) (partJ_byte hx _)).1 ((new j hj t ht ht2).trans (old j hj t ht ht2).symm)]
      exact old j hj t ht ht2
  · have h0 : s.2 = 0 := by simpa using h1
    rw [if_neg h1]
    obtain ⟨g1, g2⟩ := hi.good h0
    have hin' : inJ s.1 a := by unfold inJ; rw [hi.wk.rs.1, hi.wk.rs.2]; exact hin
    have hs' := sErr_zero hin' g1
    unfold syncD
    rw [if_pos hs']
    obtain ⟨s1, s2, s3⟩ := hi.wk.sync
    refine ⟨okD_restart' s2 ns, hi.wk.rs.1, hi.wk.rs.2, main _ (okD_restart' s2 ns) rfl fun j hj t ht ht2 => ?_⟩
    rw [read_rest rfl]
    show (goR (syncedD s.1 a.g).safe (syncedD s.1 a.g).pend ns (atJ a j))[t]? = _
    rw [s1]
    show ((syncedD s.1 a.g).safe (atJ a j))[t]? = _
    rw [← read_rest s1, s3]
    by_cases hr : sf / 64 ≤ j ∧ j < sf / 64 + cntJ row sf
    · rw [g2 j hr.1 hr.2]
      exact new j hj t ht ht2
    · rw [hi.wk.same hp (fun j' q1 q2 => atJ_ne (by omega)), hb j hj]
      exact old j hj t ht ht2
/-- A restart with nothing pending changes nothing that is read. -/
theorem restart_same {d : Dev} (hp : d.pend = []) (ns : List Int) (k : Pl) : readD (restartD d ns) k = readD d k := by
  rw [read_rest rfl, read_rest hp]
  show goR d.safe d.pend ns k = _
  rw [hp]; cases ns <;> rfl
theorem lies_restart {d : Dev} {a : Ar} {row : List Nat} (hp : d.pend = []) (h : Lies d a row) (ns : List Int) : Lies (restartD d ns) a row := fun i hi => by rw [restart_same hp]; exact h i hi
theorem held_congr {d d' : Dev} {a : Ar} (h : ∀ i : Nat, i < a.s.toNat → readD d' (atJ a i) = readD d (atJ a i)) : heldJ d' a = heldJ d a := secsB_congr h
end Go.Proofs.YtjnhcanohefjiaaGreatDoor
