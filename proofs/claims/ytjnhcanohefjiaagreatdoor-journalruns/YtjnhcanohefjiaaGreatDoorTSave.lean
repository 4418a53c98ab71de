/- Texts saved one behind the other, and a crash meanwhile, plainly. -/
import Derived.Test.YtjnhcanohefjiaaGreatDoorTMath
namespace Go.Proofs.YtjnhcanohefjiaaGreatDoor

/-- What parts that are written leave as it was. -/
theorem wrL_stays : ∀ (cs : List (List Nat)) (d : Dev) (g f : Int), (wrL d g f cs).1.safe = d.safe ∧ (wrL d g f cs).1.r = d.r ∧ (wrL d g f cs).1.s = d.s ∧ ∀ k, (∀ i : Nat, i < cs.length → k ≠ (g, f + i)) → getP (wrL d g f cs).1.pend k = getP d.pend k
  | [], d, g, f => ⟨rfl, rfl, rfl, fun _ _ => rfl⟩
  | c :: r, d, g, f => by
    have hw : (writeD d (g, f) c).safe = d.safe ∧ (writeD d (g, f) c).r = d.r ∧ (writeD d (g, f) c).s = d.s ∧ ∀ k, k ≠ (g, f) → getP (writeD d (g, f) c).pend k = getP d.pend k := by
      unfold writeD
      split
      · exact ⟨rfl, rfl, rfl, fun _ _ => rfl⟩
      · exact ⟨rfl, rfl, rfl, fun k hk => getP_put_other _ _ _ _ hk⟩
    obtain ⟨w1, w2, w3, w4⟩ := hw
    have h0 : ∀ k : Pl, (∀ i : Nat, i < (c :: r).length → k ≠ (g, f + i)) → k ≠ (g, f) := fun k hk => by have := hk 0 (by simp); simpa using this
    unfold wrL
    split
    · exact ⟨w1, w2, w3, fun k hk => w4 k (h0 k hk)⟩
    · obtain ⟨i1, i2, i3, i4⟩ := wrL_stays r (writeD d (g, f) c) g (f + 1)
      refine ⟨i1.trans w1, i2.trans w2, i3.trans w3, fun k hk => ?_⟩
      rw [i4 k (fun i hi => by have := hk (i + 1) (by simpa using hi); rw [show f + 1 + (i : Int) = f + ((i + 1 : Nat) : Int) by omega]; exact this), w4 k (h0 k hk)]
theorem okD_wrL : ∀ (cs : List (List Nat)) (d : Dev) (g f : Int), okD d → (∀ c ∈ cs, ∀ x ∈ c, x < 256) → okD (wrL d g f cs).1
  | [], d, g, f, h, _ => h
  | c :: r, d, g, f, h, hx => by
    have hw := okD_write (k := (g, f)) h (hx c List.mem_cons_self)
    unfold wrL
    split
    · exact hw
    · exact okD_wrL r _ g (f + 1) hw (fun c hc => hx c (List.mem_cons_of_mem _ hc))
/-- Where no error came, all parts are pending. -/
theorem wrL_good : ∀ (cs : List (List Nat)) (d : Dev) (g f : Int), (wrL d g f cs).2 = 0 → (∀ c ∈ cs, c.length ≤ 64) → (cs ≠ [] ∨ d.crashed = false) → (wrL d g f cs).1.crashed = false ∧ ∀ i : Nat, i < cs.length → getP (wrL d g f cs).1.pend (g, f + i) = some (fillC (cs.getD i []))
  | [], d, g, f, _, _, hc => ⟨by rcases hc with h | h; exact absurd rfl h; exact h, fun i hi => by simp at hi⟩
  | c :: r, d, g, f, h, hl, _ => by
    by_cases he : wErr d (g, f) c.length = 0
    · have e : wrL d g f (c :: r) = wrL (writeD d (g, f) c) g (f + 1) r := by
        conv => lhs; unfold wrL
        rw [if_neg (by simpa using he)]
      rw [e] at h ⊢
      have hn : ¬ (¬ hasD d (g, f) ∨ 64 < c.length ∨ d.crashed = true) ∧ ¬ (d.armed = true ∧ d.left = 0) := by
        unfold wErr at he
        split at he
        · cases he
        · rename_i h1
          split at he
          · cases he
          · split at he
            · cases he
            · split at he
              · cases he
              · rename_i h2 h3 h4
                refine ⟨?_, h4⟩
                rintro (e | e | e)
                · exact h1 e
                · exact h2 e
                · exact h3 e
      have ew : writeD d (g, f) c = doneD d (g, f) (fillC c) := if_neg hn.1
      have hcr : (writeD d (g, f) c).crashed = false := by
        rw [ew]
        show (d.crashed || (d.armed && decide (d.left = 0))) = false
        have h1 : d.crashed = false := by
          cases hh : d.crashed
          · rfl
          · exact absurd (.inr (.inr hh)) hn.1
        rw [h1]
        cases ha : d.armed
        · rfl
        · simp only [Bool.false_or, Bool.true_and, decide_eq_false_iff_not]
          exact fun e => hn.2 ⟨ha, e⟩
      obtain ⟨i1, i2⟩ := wrL_good r _ g (f + 1) h (fun c hc => hl c (List.mem_cons_of_mem _ hc)) (.inr hcr)
      refine ⟨i1, fun i hi => ?_⟩
      cases i with
      | zero =>
        have := (wrL_stays r (writeD d (g, f) c) g (f + 1)).2.2.2 (g, f) (fun j _ e => by simp only [Prod.mk.injEq, true_and] at e; omega)
        simp only [Int.natCast_zero, Int.add_zero, List.getD_cons_zero]
        rw [this, ew]
        exact getP_put_same _ _ _
      | succ i =>
        have := i2 i (by simpa using hi)
        rw [show f + ((i + 1 : Nat) : Int) = f + 1 + (i : Int) by omega, this]
        simp
    · have e : (wrL d g f (c :: r)).2 = wErr d (g, f) c.length := by
        conv => lhs; unfold wrL
        rw [if_pos he]
      exact absurd (e.symm.trans h) he
/-- No error comes of a device that is whole and not armed. -/
theorem wrL_free : ∀ (cs : List (List Nat)) (d : Dev) (g f : Int), d.crashed = false → d.armed = false → 0 ≤ g → g < d.r → 0 ≤ f → f + cs.length ≤ d.s → (∀ c ∈ cs, c.length ≤ 64) → (wrL d g f cs).2 = 0 ∧ (wrL d g f cs).1.armed = false
  | [], d, g, f, _, ha, _, _, _, _, _ => ⟨rfl, ha⟩
  | c :: r, d, g, f, hc, ha, g0, g1, f0, fl, hl => by
    simp only [List.length_cons] at fl
    have hk : hasD d (g, f) := ⟨g0, g1, f0, by show f < d.s; omega⟩
    have h64 := hl c List.mem_cons_self
    have he : wErr d (g, f) c.length = 0 := by
      unfold wErr
      rw [if_neg (fun e => e hk), if_neg (by omega), if_neg (by rw [hc]; simp), if_neg (by rw [ha]; simp)]
    have ew : writeD d (g, f) c = doneD d (g, f) (fillC c) := if_neg (by rintro (e | e | e); exact e hk; omega; rw [hc] at e; cases e)
    have e : wrL d g f (c :: r) = wrL (writeD d (g, f) c) g (f + 1) r := by
      conv => lhs; unfold wrL
      rw [if_neg (by simpa using he)]
    rw [e]
    refine wrL_free r _ g (f + 1) ?_ ?_ g0 ?_ (by omega) ?_ (fun c hc => hl c (List.mem_cons_of_mem _ hc))
    · rw [ew]; show (d.crashed || (d.armed && decide (d.left = 0))) = false; rw [hc, ha]; rfl
    · rw [ew]; exact ha
    · rw [ew]; exact g1
    · rw [ew]; show f + 1 + (r.length : Int) ≤ d.s; omega
theorem secsB_congr {d d' : Dev} {g f : Int} {n : Nat} (h : ∀ i : Nat, i < n → readD d' (g, f + i) = readD d (g, f + i)) : secsB d' g f n = secsB d g f n := by
  unfold secsB
  congr 1
  apply List.map_congr_left
  intro i hi
  exact h i (List.mem_range.1 hi)
theorem secsB_succ (d : Dev) (g f : Int) (n : Nat) : secsB d g f (n + 1) = readD d (g, f) ++ secsB d g (f + 1) n := by
  unfold secsB
  rw [List.range_succ_eq_map, List.map_cons, List.map_map, List.flatten_cons]
  simp only [Int.natCast_zero, Int.add_zero]
  congr 2
  apply List.map_congr_left
  intro i _
  simp only [Function.comp]
  rw [show f + ((i.succ : Nat) : Int) = f + 1 + (i : Int) by omega]
theorem secsB_snoc (d : Dev) (g f : Int) (n : Nat) : secsB d g f (n + 1) = secsB d g f n ++ readD d (g, f + n) := by
  unfold secsB
  rw [List.range_succ]
  simp
theorem secsB_len {d : Dev} (h : okD d) (g f : Int) (n : Nat) : (secsB d g f n).length = 64 * n := by
  induction n with
  | zero => rfl
  | succ n ih => rw [secsB_snoc, List.length_append, ih, (okC_read h _).1]; omega
theorem secsB_byte {d : Dev} (h : okD d) (g f : Int) (n : Nat) : ∀ x ∈ secsB d g f n, x < 256 := by
  induction n with
  | zero => intro x hx; simp [secsB] at hx
  | succ n ih =>
    rw [secsB_snoc]
    intro x hx
    rcases List.mem_append.1 hx with hx | hx
    · exact ih x hx
    · exact (okC_read h _).2 x hx
/-- Sectors that hold the parts of bytes begin with these. -/
theorem secsB_parts (d : Dev) (g : Int) (xs : List Nat) : ∀ (f : Int) (n : Nat), (chk xs).length ≤ n → (∀ i : Nat, i < (chk xs).length → readD d (g, f + i) = fillC ((chk xs).getD i [])) → ∃ rest, secsB d g f n = xs ++ rest := by
  refine chk_ind (P := fun xs => ∀ (f : Int) (n : Nat), (chk xs).length ≤ n → (∀ i : Nat, i < (chk xs).length → readD d (g, f + i) = fillC ((chk xs).getD i [])) → ∃ rest, secsB d g f n = xs ++ rest) ?_ ?_ xs
  · intro f n _ _
    exact ⟨_, rfl⟩
  · intro xs hne ih f n hn hr
    rw [chk_cons hne] at hn hr
    simp only [List.length_cons] at hn hr
    obtain ⟨m, rfl⟩ : ∃ m, n = m + 1 := ⟨n - 1, by omega⟩
    have h0 := hr 0 (by omega)
    simp only [Int.natCast_zero, Int.add_zero, List.getD_cons_zero] at h0
    have hs : ∀ i : Nat, i < (chk (xs.drop 64)).length → readD d (g, f + 1 + i) = fillC ((chk (xs.drop 64)).getD i []) := fun i hi => by
      have := hr (i + 1) (by omega)
      rw [show f + ((i + 1 : Nat) : Int) = f + 1 + (i : Int) by omega] at this
      rw [this]; simp
    obtain ⟨rest, e⟩ := ih (f + 1) m (by omega) hs
    rw [secsB_succ, h0]
    by_cases h64 : 64 ≤ xs.length
    · refine ⟨rest, ?_⟩
      rw [e]
      have : fillC (xs.take 64) = xs.take 64 := by
        unfold fillC
        rw [show 64 - (xs.take 64).length = 0 by rw [List.length_take]; omega]
        simp
      rw [this, ← List.append_assoc, List.take_append_drop]
    · refine ⟨List.replicate (64 - xs.length) 0 ++ secsB d g (f + 1) m, ?_⟩
      rw [List.take_of_length_le (by omega)]
      simp [fillC]
theorem read_pend {d : Dev} {k : Pl} {c : Ct} (h : getP d.pend k = some c) : readD d k = c := by unfold readD; rw [h]; rfl
theorem read_safe {d : Dev} {k : Pl} (h : getP d.pend k = none) : readD d k = d.safe k := by unfold readD; rw [h]; rfl
theorem read_synced (d : Dev) (g : Int) (k : Pl) : readD (syncedD d g) k = readD d k := by
  unfold readD
  show (getP (d.pend.filter (fun x => decide (x.1.1 ≠ g))) k).getD (if k.1 = g then (getP d.pend k).getD (d.safe k) else d.safe k) = _
  rw [getP_filter (fun p => decide (p.1 ≠ g))]
  by_cases h : k.1 = g
  · rw [if_neg (by simp [h]), if_pos h]; rfl
  · rw [if_pos (by simp [h]), if_neg h]
end Go.Proofs.YtjnhcanohefjiaaGreatDoor
