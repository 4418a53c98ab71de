/- A text kept twice, plainly: what a half holds, what is told, what is laid and written, what a crash leaves; Texts saved one behind the other, and a crash meanwhile, plainly; Texts saved one behind the other on a device of twelve sectors, plainly: what both halves hold; what a crash while one is saved leaves. -/
import Derived.Test.YthaihallfjjnpaaGreatDoorJ0
import Derived.Test.YthaihallfjjnpaaGreatDoorDMath
namespace Go.Proofs.YthaihallfjjnpaaGreatDoor

/-- What bytes hold: the number (0: nothing), the text. -/
def heldB (xs : List Nat) : Nat × List Nat :=
  if (rdU xs).2.2 ≠ 0 ∨ (rdU xs).1 = 0 then (0, [])
  else if (rdT (xs.drop (rdU xs).2.1) xs.length).2.2 ≠ 0 then (0, [])
  else if xs.length < (rdU xs).2.1 + (rdT (xs.drop (rdU xs).2.1) xs.length).2.1 + 4 then (0, [])
  else if (opn (xs.take ((rdU xs).2.1 + (rdT (xs.drop (rdU xs).2.1) xs.length).2.1 + 4))).2 ≠ 0 then (0, [])
  else ((rdU xs).1, (rdT (xs.drop (rdU xs).2.1) xs.length).1)
/-- A text with its number, as bytes, and their sum. -/
def bodyB (n : Nat) (xs : List Nat) : List Nat := enc n ++ enc xs.length ++ xs
def laidB (n : Nat) (xs : List Nat) : List Nat := bodyB n xs ++ four (sm 0 (bodyB n xs))
theorem bodyB_byte {n : Nat} {xs : List Nat} (hx : ∀ x ∈ xs, x < 256) : ∀ x ∈ bodyB n xs, x < 256 := by
  intro x h
  simp only [bodyB, List.mem_append] at h
  rcases h with (h | h) | h
  · exact enc_byte _ x h
  · exact enc_byte _ x h
  · exact hx x h
theorem laidB_byte {n : Nat} {xs : List Nat} (hx : ∀ x ∈ xs, x < 256) : ∀ x ∈ laidB n xs, x < 256 := by
  intro x h
  simp only [laidB, List.mem_append] at h
  rcases h with h | h
  · exact bodyB_byte hx x h
  · exact four_byte _ x h
theorem laidB_len (n : Nat) (xs : List Nat) : (laidB n xs).length = (enc n).length + (enc xs.length).length + xs.length + 4 := by
  simp [laidB, bodyB, four]; omega
theorem opn_sealed (ys : List Nat) : opn (ys ++ four (sm 0 ys)) = (ys, 0) := by
  have h4 : (four (sm 0 ys)).length = 4 := rfl
  have hl : (ys ++ four (sm 0 ys)).length = ys.length + 4 := by rw [List.length_append, h4]
  unfold opn
  rw [if_neg (by omega), hl, show ys.length + 4 - 4 = ys.length by omega, List.drop_left, List.take_left, if_pos rfl]
theorem rdT_enc (xs rest : List Nat) (most : Nat) (hl : xs.length < 18446744073709551616) (hm : xs.length ≤ most) : rdT (enc xs.length ++ (xs ++ rest)) most = (xs, (enc xs.length).length + xs.length, 0) := by
  unfold rdT
  rw [rdU_enc _ _ hl]
  rw [if_neg (by omega), if_neg (by simp), if_neg (by show ¬ ((most : Int) < (xs.length : Int)); omega), if_neg (by simp)]
  simp
theorem held_laid (n : Nat) (xs rest : List Nat) (hn : n < 18446744073709551616) (h0 : n ≠ 0) (hl : xs.length < 18446744073709551616) : heldB (laidB n xs ++ rest) = (n, xs) := by
  have e1 : laidB n xs ++ rest = enc n ++ (enc xs.length ++ (xs ++ (four (sm 0 (bodyB n xs)) ++ rest))) := by simp [laidB, bodyB]
  have hlen : (laidB n xs ++ rest).length = (enc n).length + (enc xs.length).length + xs.length + 4 + rest.length := by rw [List.length_append, laidB_len]
  have hu : rdU (laidB n xs ++ rest) = (n, (enc n).length, 0) := by rw [e1, rdU_enc n _ hn]
  have hd : (laidB n xs ++ rest).drop (enc n).length = enc xs.length ++ (xs ++ (four (sm 0 (bodyB n xs)) ++ rest)) := by rw [e1, List.drop_left]
  have ht := rdT_enc xs (four (sm 0 (bodyB n xs)) ++ rest) (laidB n xs ++ rest).length hl (by omega)
  have hk : (laidB n xs ++ rest).take ((enc n).length + ((enc xs.length).length + xs.length) + 4) = laidB n xs := by
    rw [show (enc n).length + ((enc xs.length).length + xs.length) + 4 = (laidB n xs).length by rw [laidB_len]; omega, List.take_left]
  unfold heldB
  simp only [hu, hd, ht, hk]
  rw [if_neg (by simp [h0]), if_neg (by simp), if_neg (by omega), if_neg (by unfold laidB; rw [opn_sealed]; simp)]

/-- Where a twin lies. -/
structure Ar where
  g : Int
  f : Int
  s : Int
abbrev inA (d : Dev) (a : Ar) : Prop := 0 ≤ a.g ∧ a.g < d.r ∧ 0 ≤ a.f ∧ 2 ≤ a.s ∧ a.s ≤ d.s ∧ a.f ≤ d.s - a.s
def roomA (a : Ar) : Int := if a.s < 2 ∨ 16384 < a.s then 0 else max 0 (a.s / 2 * 64 - 24)
def lookE (d : Dev) (a : Ar) : Nat := if ¬ inA d a then 1 else if d.crashed = true then 60 else 0
/-- The bytes of sectors, one behind the other. -/
def secsB (d : Dev) (g f : Int) (n : Nat) : List Nat := ((List.range n).map fun (i : Nat) => readD d (g, f + i)).flatten
def begA (a : Ar) (h : Nat) : Int := a.f + h * (a.s / 2)
def halfA (d : Dev) (a : Ar) (h : Nat) : List Nat := secsB d a.g (begA a h) (a.s / 2).toNat
def numA (d : Dev) (a : Ar) (h : Nat) : Nat := (heldB (halfA d a h)).1
def txtA (d : Dev) (a : Ar) (h : Nat) : List Nat := (heldB (halfA d a h)).2
/-- Which half is told. -/
def tellA (d : Dev) (a : Ar) : Nat := if numA d a 1 > numA d a 0 then 1 else 0
def topA (d : Dev) (a : Ar) : Nat := numA d a (tellA d a)
def nextH (d : Dev) (a : Ar) : Nat := if topA d a = 0 then 0 else 1 - tellA d a
def nextN (d : Dev) (a : Ar) : Nat := if topA d a = 0 then 1 else (topA d a + 1) % 18446744073709551616
/-- Bytes in parts of a sector. -/
def chk (xs : List Nat) : List (List Nat) := if xs = [] then [] else xs.take 64 :: chk (xs.drop 64)
  termination_by xs.length
  decreasing_by
    rename_i h
    have : 0 < xs.length := List.length_pos_iff.2 h
    simp; omega
theorem chk_nil : chk [] = [] := by rw [chk, if_pos rfl]
theorem chk_cons {xs : List Nat} (h : xs ≠ []) : chk xs = xs.take 64 :: chk (xs.drop 64) := by rw [chk, if_neg h]
theorem chk_ind {P : List Nat → Prop} (h0 : P []) (h1 : ∀ xs, xs ≠ [] → P (xs.drop 64) → P xs) (xs : List Nat) : P xs := by
  generalize hn : xs.length = n
  induction n using Nat.strongRecOn generalizing xs with
  | _ n ih =>
    by_cases h : xs = []
    · rw [h]; exact h0
    · have hp : 0 < xs.length := List.length_pos_iff.2 h
      exact h1 xs h (ih (xs.drop 64).length (by rw [List.length_drop]; omega) _ rfl)
theorem chk_len (xs : List Nat) : (chk xs).length = (xs.length + 63) / 64 := by
  refine chk_ind (P := fun xs => (chk xs).length = (xs.length + 63) / 64) ?_ ?_ xs
  · rw [chk_nil]; rfl
  · intro xs h ih
    have hp : 0 < xs.length := List.length_pos_iff.2 h
    rw [chk_cons h, List.length_cons, ih, List.length_drop]
    omega
theorem chk_part (xs : List Nat) : ∀ c ∈ chk xs, c ≠ [] ∧ c.length ≤ 64 := by
  refine chk_ind (P := fun xs => ∀ c ∈ chk xs, c ≠ [] ∧ c.length ≤ 64) ?_ ?_ xs
  · rw [chk_nil]; simp
  · intro xs h ih c hc
    have hp : 0 < xs.length := List.length_pos_iff.2 h
    rw [chk_cons h] at hc
    rcases List.mem_cons.1 hc with rfl | hc
    · refine ⟨fun e => ?_, by rw [List.length_take]; omega⟩
      have := congrArg List.length e
      rw [List.length_take, List.length_nil] at this
      omega
    · exact ih c hc
theorem chk_byte (xs : List Nat) (hx : ∀ x ∈ xs, x < 256) : ∀ c ∈ chk xs, ∀ x ∈ c, x < 256 := by
  revert hx
  refine chk_ind (P := fun xs => (∀ x ∈ xs, x < 256) → ∀ c ∈ chk xs, ∀ x ∈ c, x < 256) ?_ ?_ xs
  · rw [chk_nil]; simp
  · intro xs h ih hx c hc
    rw [chk_cons h] at hc
    rcases List.mem_cons.1 hc with rfl | hc
    · exact fun x hx' => hx x (List.mem_of_mem_take hx')
    · exact ih (fun x hx' => hx x (List.mem_of_mem_drop hx')) c hc
/-- Parts written one behind the other, up to the first error. -/
def wrL (d : Dev) (g f : Int) : List (List Nat) → Dev × Nat
  | [] => (d, 0)
  | c :: r => if wErr d (g, f) c.length ≠ 0 then (writeD d (g, f) c, wErr d (g, f) c.length) else wrL (writeD d (g, f) c) g (f + 1) r
def wroteD (d : Dev) (a : Ar) (xs : List Nat) : Dev × Nat := wrL d a.g (begA a (nextH d a)) (chk (laidB (nextN d a) xs))
/-- What Save makes of a device, and its error. -/
def saveD (d : Dev) (a : Ar) (xs : List Nat) : Dev := if lookE d a ≠ 0 ∨ roomA a < xs.length then d else if (wroteD d a xs).2 ≠ 0 then (wroteD d a xs).1 else syncD (wroteD d a xs).1 a.g
def saveE (d : Dev) (a : Ar) (xs : List Nat) : Nat := if lookE d a ≠ 0 then lookE d a else if roomA a < xs.length then 2 else if (wroteD d a xs).2 ≠ 0 then (wroteD d a xs).2 else sErr (wroteD d a xs).1 a.g
def loadE (d : Dev) (a : Ar) : Nat := if lookE d a ≠ 0 then lookE d a else if topA d a = 0 then 8 else 0
end Go.Proofs.YthaihallfjjnpaaGreatDoor

namespace Go.Proofs.YthaihallfjjnpaaGreatDoor

/-- What parts that are written leave as it was. -/
theorem wrL_stays : ∀ (cs : List (List Nat)) (d : Dev) (g f : Int), (wrL d g f cs).1.safe = d.safe ∧ (wrL d g f cs).1.r = d.r ∧ (wrL d g f cs).1.s = d.s ∧ ∀ k, (∀ i : Nat, i < cs.length → k ≠ (g, f + i)) → getP (wrL d g f cs).1.pend k = getP d.pend k
  | [], d, g, f => ⟨rfl, rfl, rfl, fun _ _ => rfl⟩
  | c :: r, d, g, f => by
    have hw : (writeD d (g, f) c).safe = d.safe ∧ (writeD d (g, f) c).r = d.r ∧ (writeD d (g, f) c).s = d.s ∧ ∀ k, k ≠ (g, f) → getP (writeD d (g, f) c).pend k = getP d.pend k := by
      unfold writeD
      split
      · exact ⟨rfl, rfl, rfl, fun _ _ => rfl⟩
      · exact ⟨rfl, rfl, rfl, fun k hk => getP_put_other _ _ _ _ hk⟩
    obtain ⟨w1, w2, w3, w4⟩ := hw
    have h0 : ∀ k : Pl, (∀ i : Nat, i < (c :: r).length → k ≠ (g, f + i)) → k ≠ (g, f) := fun k hk => by have := hk 0 (by simp); simpa using this
    unfold wrL
    split
    · exact ⟨w1, w2, w3, fun k hk => w4 k (h0 k hk)⟩
    · obtain ⟨i1, i2, i3, i4⟩ := wrL_stays r (writeD d (g, f) c) g (f + 1)
      refine ⟨i1.trans w1, i2.trans w2, i3.trans w3, fun k hk => ?_⟩
      rw [i4 k (fun i hi => by have := hk (i + 1) (by simpa using hi); rw [show f + 1 + (i : Int) = f + ((i + 1 : Nat) : Int) by omega]; exact this), w4 k (h0 k hk)]
theorem okD_wrL : ∀ (cs : List (List Nat)) (d : Dev) (g f : Int), okD d → (∀ c ∈ cs, ∀ x ∈ c, x < 256) → okD (wrL d g f cs).1
  | [], d, g, f, h, _ => h
  | c :: r, d, g, f, h, hx => by
    have hw := okD_write (k := (g, f)) h (hx c List.mem_cons_self)
    unfold wrL
    split
    · exact hw
    · exact okD_wrL r _ g (f + 1) hw (fun c hc => hx c (List.mem_cons_of_mem _ hc))
/-- Where no error came, all parts are pending. -/
theorem wrL_good : ∀ (cs : List (List Nat)) (d : Dev) (g f : Int), (wrL d g f cs).2 = 0 → (∀ c ∈ cs, c.length ≤ 64) → (cs ≠ [] ∨ d.crashed = false) → (wrL d g f cs).1.crashed = false ∧ ∀ i : Nat, i < cs.length → getP (wrL d g f cs).1.pend (g, f + i) = some (fillC (cs.getD i []))
  | [], d, g, f, _, _, hc => ⟨by rcases hc with h | h; exact absurd rfl h; exact h, fun i hi => by simp at hi⟩
  | c :: r, d, g, f, h, hl, _ => by
    by_cases he : wErr d (g, f) c.length = 0
    · have e : wrL d g f (c :: r) = wrL (writeD d (g, f) c) g (f + 1) r := by
        conv => lhs; unfold wrL
        rw [if_neg (by simpa using he)]
      rw [e] at h ⊢
      have hn : ¬ (¬ hasD d (g, f) ∨ 64 < c.length ∨ d.crashed = true) ∧ ¬ (d.armed = true ∧ d.left = 0) := by
        unfold wErr at he
        split at he
        · cases he
        · rename_i h1
          split at he
          · cases he
          · split at he
            · cases he
            · split at he
              · cases he
              · rename_i h2 h3 h4
                refine ⟨?_, h4⟩
                rintro (e | e | e)
                · exact h1 e
                · exact h2 e
                · exact h3 e
      have ew : writeD d (g, f) c = doneD d (g, f) (fillC c) := if_neg hn.1
      have hcr : (writeD d (g, f) c).crashed = false := by
        rw [ew]
        show (d.crashed || (d.armed && decide (d.left = 0))) = false
        have h1 : d.crashed = false := by
          cases hh : d.crashed
          · rfl
          · exact absurd (.inr (.inr hh)) hn.1
        rw [h1]
        cases ha : d.armed
        · rfl
        · simp only [Bool.false_or, Bool.true_and, decide_eq_false_iff_not]
          exact fun e => hn.2 ⟨ha, e⟩
      obtain ⟨i1, i2⟩ := wrL_good r _ g (f + 1) h (fun c hc => hl c (List.mem_cons_of_mem _ hc)) (.inr hcr)
      refine ⟨i1, fun i hi => ?_⟩
      cases i with
      | zero =>
        have := (wrL_stays r (writeD d (g, f) c) g (f + 1)).2.2.2 (g, f) (fun j _ e => by simp only [Prod.mk.injEq, true_and] at e; omega)
        simp only [Int.natCast_zero, Int.add_zero, List.getD_cons_zero]
        rw [this, ew]
        exact getP_put_same _ _ _
      | succ i =>
        have := i2 i (by simpa using hi)
        rw [show f + ((i + 1 : Nat) : Int) = f + 1 + (i : Int) by omega, this]
        simp
    · have e : (wrL d g f (c :: r)).2 = wErr d (g, f) c.length := by
        conv => lhs; unfold wrL
        rw [if_pos he]
      exact absurd (e.symm.trans h) he
/-- No error comes of a device that is whole and not armed. -/
theorem wrL_free : ∀ (cs : List (List Nat)) (d : Dev) (g f : Int), d.crashed = false → d.armed = false → 0 ≤ g → g < d.r → 0 ≤ f → f + cs.length ≤ d.s → (∀ c ∈ cs, c.length ≤ 64) → (wrL d g f cs).2 = 0 ∧ (wrL d g f cs).1.armed = false
  | [], d, g, f, _, ha, _, _, _, _, _ => ⟨rfl, ha⟩
  | c :: r, d, g, f, hc, ha, g0, g1, f0, fl, hl => by
    simp only [List.length_cons] at fl
    have hk : hasD d (g, f) := ⟨g0, g1, f0, by show f < d.s; omega⟩
    have h64 := hl c List.mem_cons_self
    have he : wErr d (g, f) c.length = 0 := by
      unfold wErr
      rw [if_neg (fun e => e hk), if_neg (by omega), if_neg (by rw [hc]; simp), if_neg (by rw [ha]; simp)]
    have ew : writeD d (g, f) c = doneD d (g, f) (fillC c) := if_neg (by rintro (e | e | e); exact e hk; omega; rw [hc] at e; cases e)
    have e : wrL d g f (c :: r) = wrL (writeD d (g, f) c) g (f + 1) r := by
      conv => lhs; unfold wrL
      rw [if_neg (by simpa using he)]
    rw [e]
    refine wrL_free r _ g (f + 1) ?_ ?_ g0 ?_ (by omega) ?_ (fun c hc => hl c (List.mem_cons_of_mem _ hc))
    · rw [ew]; show (d.crashed || (d.armed && decide (d.left = 0))) = false; rw [hc, ha]; rfl
    · rw [ew]; exact ha
    · rw [ew]; exact g1
    · rw [ew]; show f + 1 + (r.length : Int) ≤ d.s; omega
theorem secsB_congr {d d' : Dev} {g f : Int} {n : Nat} (h : ∀ i : Nat, i < n → readD d' (g, f + i) = readD d (g, f + i)) : secsB d' g f n = secsB d g f n := by
  unfold secsB
  congr 1
  apply List.map_congr_left
  intro i hi
  exact h i (List.mem_range.1 hi)
theorem secsB_succ (d : Dev) (g f : Int) (n : Nat) : secsB d g f (n + 1) = readD d (g, f) ++ secsB d g (f + 1) n := by
  unfold secsB
  rw [List.range_succ_eq_map, List.map_cons, List.map_map, List.flatten_cons]
  simp only [Int.natCast_zero, Int.add_zero]
  congr 2
  apply List.map_congr_left
  intro i _
  simp only [Function.comp]
  rw [show f + ((i.succ : Nat) : Int) = f + 1 + (i : Int) by omega]
theorem secsB_snoc (d : Dev) (g f : Int) (n : Nat) : secsB d g f (n + 1) = secsB d g f n ++ readD d (g, f + n) := by
  unfold secsB
  rw [List.range_succ]
  simp
theorem secsB_len {d : Dev} (h : okD d) (g f : Int) (n : Nat) : (secsB d g f n).length = 64 * n := by
  induction n with
  | zero => rfl
  | succ n ih => rw [secsB_snoc, List.length_append, ih, (okC_read h _).1]; omega
theorem secsB_byte {d : Dev} (h : okD d) (g f : Int) (n : Nat) : ∀ x ∈ secsB d g f n, x < 256 := by
  induction n with
  | zero => intro x hx; simp [secsB] at hx
  | succ n ih =>
    rw [secsB_snoc]
    intro x hx
    rcases List.mem_append.1 hx with hx | hx
    · exact ih x hx
    · exact (okC_read h _).2 x hx
/-- Sectors that hold the parts of bytes begin with these. -/
theorem secsB_parts (d : Dev) (g : Int) (xs : List Nat) : ∀ (f : Int) (n : Nat), (chk xs).length ≤ n → (∀ i : Nat, i < (chk xs).length → readD d (g, f + i) = fillC ((chk xs).getD i [])) → ∃ rest, secsB d g f n = xs ++ rest := by
  refine chk_ind (P := fun xs => ∀ (f : Int) (n : Nat), (chk xs).length ≤ n → (∀ i : Nat, i < (chk xs).length → readD d (g, f + i) = fillC ((chk xs).getD i [])) → ∃ rest, secsB d g f n = xs ++ rest) ?_ ?_ xs
  · intro f n _ _
    exact ⟨_, rfl⟩
  · intro xs hne ih f n hn hr
    rw [chk_cons hne] at hn hr
    simp only [List.length_cons] at hn hr
    obtain ⟨m, rfl⟩ : ∃ m, n = m + 1 := ⟨n - 1, by omega⟩
    have h0 := hr 0 (by omega)
    simp only [Int.natCast_zero, Int.add_zero, List.getD_cons_zero] at h0
    have hs : ∀ i : Nat, i < (chk (xs.drop 64)).length → readD d (g, f + 1 + i) = fillC ((chk (xs.drop 64)).getD i []) := fun i hi => by
      have := hr (i + 1) (by omega)
      rw [show f + ((i + 1 : Nat) : Int) = f + 1 + (i : Int) by omega] at this
      rw [this]; simp
    obtain ⟨rest, e⟩ := ih (f + 1) m (by omega) hs
    rw [secsB_succ, h0]
    by_cases h64 : 64 ≤ xs.length
    · refine ⟨rest, ?_⟩
      rw [e]
      have : fillC (xs.take 64) = xs.take 64 := by
        unfold fillC
        rw [show 64 - (xs.take 64).length = 0 by rw [List.length_take]; omega]
        simp
      rw [this, ← List.append_assoc, List.take_append_drop]
    · refine ⟨List.replicate (64 - xs.length) 0 ++ secsB d g (f + 1) m, ?_⟩
      rw [List.take_of_length_le (by omega)]
      simp [fillC]
theorem read_pend {d : Dev} {k : Pl} {c : Ct} (h : getP d.pend k = some c) : readD d k = c := by unfold readD; rw [h]; rfl
theorem read_safe {d : Dev} {k : Pl} (h : getP d.pend k = none) : readD d k = d.safe k := by unfold readD; rw [h]; rfl
theorem read_synced (d : Dev) (g : Int) (k : Pl) : readD (syncedD d g) k = readD d k := by
  unfold readD
  show (getP (d.pend.filter (fun x => decide (x.1.1 ≠ g))) k).getD (if k.1 = g then (getP d.pend k).getD (d.safe k) else d.safe k) = _
  rw [getP_filter (fun p => decide (p.1 ≠ g))]
  by_cases h : k.1 = g
  · rw [if_neg (by simp [h]), if_pos h]; rfl
  · rw [if_pos (by simp [h]), if_neg h]
end Go.Proofs.YthaihallfjjnpaaGreatDoor

namespace Go.Proofs.YthaihallfjjnpaaGreatDoor

/-- The area that the laws work on: two halves of q sectors. -/
def arS (q : Nat) : Ar := ⟨0, 0, 2 * q⟩
theorem half_s (q : Nat) : (arS q).s / 2 = q := by show (2 * (q : Int)) / 2 = q; omega
theorem beg_s (q h : Nat) : begA (arS q) h = h * q := by unfold begA; rw [half_s]; show (0 : Int) + _ = _; omega
theorem half_eq (q : Nat) (d : Dev) (h : Nat) : halfA d (arS q) h = secsB d 0 (begA (arS q) h) q := by unfold halfA; rw [half_s]; rfl
theorem room_eq (q : Nat) (h1 : 1 ≤ q) (h2 : q ≤ 8192) : roomA (arS q) = 64 * q - 24 := by
  unfold roomA
  rw [half_s, if_neg (by show ¬ (2 * (q : Int) < 2 ∨ 16384 < 2 * (q : Int)); omega)]
  omega
/-- A device of one region and of these sectors on which nothing is pending. -/
structure Still (q : Nat) (d : Dev) : Prop where
  ok : okD d
  r : d.r = 1
  s : d.s = 2 * q
  pend : d.pend = []
  cr : d.crashed = false
  qb : q ≤ 100
theorem still_inA {q : Nat} {d : Dev} (hq : 1 ≤ q) (h : Still q d) : inA d (arS q) := by
  refine ⟨Int.le_refl _, ?_, Int.le_refl _, ?_, ?_, ?_⟩
  · rw [h.r]; show (0 : Int) < 1; decide
  · show 2 ≤ 2 * (q : Int); omega
  · rw [h.s]; exact Int.le_refl _
  · rw [h.s]; show (0 : Int) ≤ 2 * (q : Int) - 2 * (q : Int); omega
theorem still_look {q : Nat} {d : Dev} (hq : 1 ≤ q) (h : Still q d) : lookE d (arS q) = 0 := by
  unfold lookE
  rw [if_neg (fun e => e (still_inA hq h)), if_neg (by rw [h.cr]; simp)]
/-- i texts were saved, the last one is t. -/
structure Tw (q : Nat) (d : Dev) (i : Nat) (t : List Nat) : Prop where
  st : Still q d
  none : i = 0 → numA d (arS q) 0 = 0 ∧ numA d (arS q) 1 = 0
  some : i ≠ 0 → heldB (halfA d (arS q) ((i + 1) % 2)) = (i, t) ∧ numA d (arS q) (i % 2) = i - 1
theorem Tw.tells {q : Nat} {d : Dev} {i : Nat} {t : List Nat} (h : Tw q d i t) (hi : i ≠ 0) : tellA d (arS q) = (i + 1) % 2 ∧ topA d (arS q) = i ∧ txtA d (arS q) (tellA d (arS q)) = t := by
  obtain ⟨h1, h2⟩ := h.some hi
  have e1 : numA d (arS q) ((i + 1) % 2) = i := by unfold numA; rw [h1]
  have e2 : txtA d (arS q) ((i + 1) % 2) = t := by unfold txtA; rw [h1]
  have ht : tellA d (arS q) = (i + 1) % 2 := by
    unfold tellA
    rcases Nat.mod_two_eq_zero_or_one i with hp | hp
    · have hq : (i + 1) % 2 = 1 := by omega
      rw [hp] at h2; rw [hq] at e1 ⊢
      rw [if_pos (by omega)]
    · have hq : (i + 1) % 2 = 0 := by omega
      rw [hp] at h2; rw [hq] at e1 ⊢
      rw [if_neg (by omega)]
  exact ⟨ht, by unfold topA; rw [ht, e1], by rw [ht, e2]⟩
theorem Tw.top0 {q : Nat} {d : Dev} {t : List Nat} (h : Tw q d 0 t) : tellA d (arS q) = 0 ∧ topA d (arS q) = 0 := by
  obtain ⟨h1, h2⟩ := h.none rfl
  have ht : tellA d (arS q) = 0 := by unfold tellA; rw [if_neg (by omega)]
  exact ⟨ht, by unfold topA; rw [ht, h1]⟩
theorem Tw.next {q : Nat} {d : Dev} {i : Nat} {t : List Nat} (h : Tw q d i t) (hl : i < 1000) : nextH d (arS q) = i % 2 ∧ nextN d (arS q) = i + 1 := by
  unfold nextH nextN
  by_cases hi : i = 0
  · subst hi
    obtain ⟨h1, h2⟩ := h.top0
    rw [if_pos h2, if_pos h2]
    exact ⟨rfl, rfl⟩
  · obtain ⟨h1, h2, _⟩ := h.tells hi
    rw [if_neg (by omega), if_neg (by omega), h1, h2]
    omega
/-- The numbers of both halves. -/
theorem Tw.both {q : Nat} {d : Dev} {i : Nat} {t : List Nat} (h : Tw q d i t) (hi : i ≠ 0) : max (numA d (arS q) 0) (numA d (arS q) 1) = i ∧ min (numA d (arS q) 0) (numA d (arS q) 1) = i - 1 := by
  obtain ⟨h1, h2⟩ := h.some hi
  have e1 : numA d (arS q) ((i + 1) % 2) = i := by unfold numA; rw [h1]
  rcases Nat.mod_two_eq_zero_or_one i with hp | hp
  · have hq : (i + 1) % 2 = 1 := by omega
    rw [hp] at h2; rw [hq] at e1
    omega
  · have hq : (i + 1) % 2 = 0 := by omega
    rw [hp] at h2; rw [hq] at e1
    omega
theorem laid_parts {q n : Nat} {xs : List Nat} (hn : n < 128) (hl : xs.length ≤ 360) (hq : xs.length + 24 ≤ 64 * q) : (chk (laidB n xs)).length ≤ q ∧ chk (laidB n xs) ≠ [] := by
  have h1 : (enc n).length = 1 := by rw [enc_lt hn]; rfl
  have h2 : (enc xs.length).length ≤ 2 := Nat.le_trans (enc_mono 360 xs.length hl) (by rw [enc_ge (by omega), enc_lt (by omega)]; simp)
  have h3 := laidB_len n xs
  have h4 := chk_len (laidB n xs)
  refine ⟨by omega, fun e => ?_⟩
  rw [e] at h4
  simp only [List.length_nil] at h4
  omega
/-- What a text that is laid into a half leaves, with or without a crash, behind a restart. -/
theorem laid_left {q : Nat} {d : Dev} (hs : Still q d) (h n : Nat) (xs : List Nat) (hh : h < 2) (hn : n < 128) (h0 : n ≠ 0) (hl : xs.length ≤ 360) (hq : xs.length + 24 ≤ 64 * q) (hx : ∀ x ∈ xs, x < 256) (W : Dev × Nat) (hW : W = wrL d 0 (begA (arS q) h) (chk (laidB n xs))) (ns : List Int) (d2 : Dev) (hd2 : d2 = if W.2 ≠ 0 then W.1 else syncD W.1 0) :
    Still q (restartD d2 ns) ∧ halfA (restartD d2 ns) (arS q) (1 - h) = halfA d (arS q) (1 - h) ∧ (W.2 = 0 → sErr W.1 0 = 0 ∧ d2.pend = [] ∧ d2.crashed = false ∧ d2.armed = W.1.armed ∧ okD d2 ∧ d2.r = 1 ∧ d2.s = 2 * (q : Int) ∧ heldB (halfA (restartD d2 ns) (arS q) h) = (n, xs) ∧ ∀ k, readD d2 k = readD (restartD d2 ns) k) := by
  obtain ⟨hp1, hp2⟩ := laid_parts hn hl hq
  have hb : (begA (arS q) h : Int) = 0 ∧ h = 0 ∨ (begA (arS q) h : Int) = q ∧ h = 1 := by
    have : h = 0 ∨ h = 1 := by omega
    rcases this with rfl | rfl
    · exact .inl ⟨by rw [beg_s]; simp, rfl⟩
    · exact .inr ⟨by rw [beg_s]; simp, rfl⟩
  have hb' : (begA (arS q) (1 - h) : Int) = q ∧ h = 0 ∨ (begA (arS q) (1 - h) : Int) = 0 ∧ h = 1 := by
    have : h = 0 ∨ h = 1 := by omega
    rcases this with rfl | rfl
    · exact .inl ⟨by rw [beg_s]; simp, rfl⟩
    · exact .inr ⟨by rw [beg_s]; simp, rfl⟩
  obtain ⟨s1, s2, s3, s4⟩ := wrL_stays (chk (laidB n xs)) d 0 (begA (arS q) h)
  have ho := okD_wrL (chk (laidB n xs)) d 0 (begA (arS q) h) hs.ok (chk_byte _ (laidB_byte hx))
  have hg := wrL_good (chk (laidB n xs)) d 0 (begA (arS q) h)
  rw [← hW] at s1 s2 s3 s4 ho hg
  have hoth : ∀ i : Nat, i < q → getP W.1.pend (0, begA (arS q) (1 - h) + i) = none := fun i hi => by
    rw [s4 _ (fun j hj e => by simp only [Prod.mk.injEq, true_and] at e; omega), hs.pend]
    rfl
  have hsafe : ∀ i : Nat, i < q → readD d (0, begA (arS q) (1 - h) + i) = W.1.safe (0, begA (arS q) (1 - h) + i) := fun i _ => by
    unfold readD; rw [hs.pend, s1]; rfl
  by_cases he : W.2 = 0
  · obtain ⟨g1, g2⟩ := hg he (fun c hc => (chk_part _ c hc).2) (.inl hp2)
    have hse : sErr W.1 0 = 0 := by
      unfold sErr
      rw [if_neg (by rw [s2, hs.r]; simp), if_neg (by rw [g1]; simp)]
    have e2 : d2 = syncedD W.1 0 := by rw [hd2, if_neg (by simpa using he)]; unfold syncD; rw [if_pos hse]
    have hpe : d2.pend = [] := by
      rw [e2]
      show W.1.pend.filter (fun x => decide (x.1.1 ≠ 0)) = []
      rw [List.filter_eq_nil_iff]
      intro x hx
      have := ho.wid x hx
      have hr := hs.r
      unfold hasD at this
      rw [s2, hr] at this
      simp only [decide_eq_true_eq]
      omega
    have hrd : ∀ k, readD (restartD d2 ns) k = readD d2 k := fun k => by
      unfold readD
      rw [hpe]
      show (Option.none : Option Ct).getD (goR d2.safe d2.pend ns k) = _
      rw [hpe]
      simp [goR, getP_nil]
    have hod : okD d2 := by rw [e2]; exact okD_synced ho 0
    have hrs : ∀ k, readD (restartD d2 ns) k = readD W.1 k := fun k => by rw [hrd, e2, read_synced]
    refine ⟨⟨okD_restart hod ns, ?_, ?_, rfl, rfl, hs.qb⟩, ?_, fun _ => ⟨hse, hpe, ?_, ?_, hod, ?_, ?_, ?_, fun k => (hrd k).symm⟩⟩
    · show d2.r = 1; rw [e2]; exact s2.trans hs.r
    · show d2.s = 2 * (q : Int); rw [e2]; exact s3.trans hs.s
    · rw [half_eq q, half_eq q]
      refine secsB_congr fun i hi => ?_
      rw [hrs, hsafe i hi, read_safe (hoth i hi)]
    · rw [e2]; exact g1
    · rw [e2]; rfl
    · rw [e2]; exact s2.trans hs.r
    · rw [e2]; exact s3.trans hs.s
    · obtain ⟨rest, er⟩ := secsB_parts (restartD d2 ns) 0 (laidB n xs) (begA (arS q) h) q hp1 (fun i hi => by rw [hrs]; exact read_pend (g2 i hi))
      rw [half_eq q, er]
      exact held_laid n xs rest (by omega) h0 (by omega)
  · have e2 : d2 = W.1 := by rw [hd2, if_pos he]
    refine ⟨⟨?_, ?_, ?_, rfl, rfl, hs.qb⟩, ?_, fun e => absurd e he⟩
    · rw [e2]; exact okD_restart ho ns
    · show d2.r = 1; rw [e2]; exact s2.trans hs.r
    · show d2.s = 2 * (q : Int); rw [e2]; exact s3.trans hs.s
    · rw [half_eq q, half_eq q]
      refine secsB_congr fun i hi => ?_
      rw [hsafe i hi, e2]
      show (getP [] _).getD (goR W.1.safe W.1.pend ns _) = _
      rw [goR_other _ _ _ _ (hoth i hi)]
      rfl
theorem restart_still {q : Nat} {d : Dev} (hs : Still q d) (ns : List Int) : ∀ k, readD (restartD d ns) k = readD d k := fun k => by
  show (getP [] k).getD (goR d.safe d.pend ns k) = _
  unfold readD
  rw [hs.pend]
  simp [goR, getP_nil]
theorem half_congr {d d' : Dev} (h : ∀ k, readD d' k = readD d k) (a : Ar) (i : Nat) : halfA d' a i = halfA d a i := by
  unfold halfA
  exact secsB_congr fun _ _ => h _
/-- A text saved on a device that is not armed. -/
theorem Tw.save {q : Nat} {d : Dev} {i : Nat} {t xs : List Nat} (h : Tw q d i t) (hi : i < 100) (ha : d.armed = false) (hl : xs.length ≤ 360) (hq : xs.length + 24 ≤ 64 * q) (hx : ∀ x ∈ xs, x < 256) : saveE d (arS q) xs = 0 ∧ (saveD d (arS q) xs).armed = false ∧ Tw q (saveD d (arS q) xs) (i + 1) xs ∧ ∀ ns, Tw q (restartD (saveD d (arS q) xs) ns) (i + 1) xs := by
  obtain ⟨n1, n2⟩ := h.next (by omega)
  have hlk := still_look (by omega) h.st
  have hrm : ¬ roomA (arS q) < (xs.length : Int) := by rw [room_eq q (by omega) (by have := h.st.qb; omega)]; omega
  have hb : (begA (arS q) (i % 2) : Int) = 0 ∨ (begA (arS q) (i % 2) : Int) = q := by
    rcases Nat.mod_two_eq_zero_or_one i with e | e <;> rw [e, beg_s]
    · left; simp
    · right; simp
  obtain ⟨hp1, hp2⟩ := laid_parts (q := q) (n := i + 1) (xs := xs) (by omega) hl hq
  have hfree := wrL_free (chk (laidB (i + 1) xs)) d 0 (begA (arS q) (i % 2)) h.st.cr ha (by omega) (by rw [h.st.r]; omega) (by omega) (by rw [h.st.s]; omega) (fun c hc => (chk_part _ c hc).2)
  have eW : wroteD d (arS q) xs = wrL d 0 (begA (arS q) (i % 2)) (chk (laidB (i + 1) xs)) := by unfold wroteD; rw [n1, n2]; rfl
  have hE : saveE d (arS q) xs = sErr (wroteD d (arS q) xs).1 0 := by
    unfold saveE
    rw [if_neg (by simpa using hlk), if_neg hrm, if_neg (by rw [eW]; simpa using hfree.1)]
    rfl
  have hD : saveD d (arS q) xs = if (wroteD d (arS q) xs).2 ≠ 0 then (wroteD d (arS q) xs).1 else syncD (wroteD d (arS q) xs).1 0 := by
    unfold saveD
    rw [if_neg (by rintro (e | e); exact e hlk; exact hrm e)]
    rfl
  have key := fun ns => laid_left h.st (i % 2) (i + 1) xs (by omega) (by omega) (by omega) hl hq hx (wroteD d (arS q) xs) eW ns _ hD
  have hz : (wroteD d (arS q) xs).2 = 0 := by rw [eW]; exact hfree.1
  have hold : ∀ ns, Tw q (restartD (saveD d (arS q) xs) ns) (i + 1) xs := fun ns => by
    obtain ⟨k1, k2, k3⟩ := key ns
    obtain ⟨_, _, _, _, _, _, _, k4, _⟩ := k3 hz
    refine ⟨k1, fun e => by omega, fun _ => ⟨?_, ?_⟩⟩
    · rw [show (i + 1 + 1) % 2 = i % 2 by omega]; exact k4
    · have e1 : (i + 1) % 2 = 1 - i % 2 := by omega
      unfold numA
      rw [e1, k2]
      show numA d (arS q) (1 - i % 2) = _
      rw [← e1]
      by_cases hi0 : i = 0
      · subst hi0; exact (h.none rfl).2
      · have := (h.some hi0).1
        unfold numA; rw [this]; rfl
  obtain ⟨k1, k2, k3⟩ := key []
  obtain ⟨c1, c2, c3, c4, c5, c6, c7, c8, c9⟩ := k3 hz
  refine ⟨by rw [hE]; exact c1, by rw [c4, eW]; exact hfree.2, ?_, hold⟩
  have h0 := hold []
  have hcg := fun j => half_congr (fun k => c9 k) (arS q) j
  refine ⟨⟨c5, c6, c7, c2, c3, h.st.qb⟩, fun e => by omega, fun hne => ?_⟩
  obtain ⟨q1, q2⟩ := h0.some hne
  unfold numA at q2 ⊢
  rw [hcg, hcg]
  exact ⟨q1, q2⟩
/-- A text saved on an armed device, whatever a restart then leaves. -/
theorem Tw.crash {q : Nat} {d : Dev} {i : Nat} {t xs : List Nat} (h : Tw q d i t) (h0 : i ≠ 0) (hi : i < 100) (hl : xs.length ≤ 360) (hq : xs.length + 24 ≤ 64 * q) (hx : ∀ x ∈ xs, x < 256) (ns : List Int) :
    Still q (restartD (saveD d (arS q) xs) ns) ∧ heldB (halfA (restartD (saveD d (arS q) xs) ns) (arS q) ((i + 1) % 2)) = (i, t) ∧ (saveE d (arS q) xs = 0 → heldB (halfA (restartD (saveD d (arS q) xs) ns) (arS q) (i % 2)) = (i + 1, xs)) := by
  obtain ⟨n1, n2⟩ := h.next (by omega)
  have hlk := still_look (by omega) h.st
  have hrm : ¬ roomA (arS q) < (xs.length : Int) := by rw [room_eq q (by omega) (by have := h.st.qb; omega)]; omega
  have eW : wroteD d (arS q) xs = wrL d 0 (begA (arS q) (i % 2)) (chk (laidB (i + 1) xs)) := by unfold wroteD; rw [n1, n2]; rfl
  have hE : saveE d (arS q) xs = if (wroteD d (arS q) xs).2 ≠ 0 then (wroteD d (arS q) xs).2 else sErr (wroteD d (arS q) xs).1 0 := by
    unfold saveE
    rw [if_neg (by simpa using hlk), if_neg hrm]
    rfl
  have hD : saveD d (arS q) xs = if (wroteD d (arS q) xs).2 ≠ 0 then (wroteD d (arS q) xs).1 else syncD (wroteD d (arS q) xs).1 0 := by
    unfold saveD
    rw [if_neg (by rintro (e | e); exact e hlk; exact hrm e)]
    rfl
  obtain ⟨k1, k2, k3⟩ := laid_left h.st (i % 2) (i + 1) xs (by omega) (by omega) (by omega) hl hq hx (wroteD d (arS q) xs) eW ns _ hD
  refine ⟨k1, ?_, fun he => ?_⟩
  · have e1 : (i + 1) % 2 = 1 - i % 2 := by omega
    rw [e1, k2, ← e1]
    exact (h.some h0).1
  · have hz : (wroteD d (arS q) xs).2 = 0 := by
      rw [hE] at he
      split at he
      · assumption
      · rename_i hh; simpa using hh
    exact (k3 hz).2.2.2.2.2.2.2.1
/-- What is told behind a crash: the old text or the new one. -/
theorem Tw.told {q : Nat} {d : Dev} {i : Nat} {t xs : List Nat} (h : Tw q d i t) (h0 : i ≠ 0) (hi : i < 100) (hl : xs.length ≤ 360) (hq : xs.length + 24 ≤ 64 * q) (hx : ∀ x ∈ xs, x < 256) (ns : List Int) (d3 : Dev) (hd3 : d3 = restartD (saveD d (arS q) xs) ns)
    (l : List (List Nat)) (hll : l.length = i + 1) (hlt : l.getD (i - 1) [] = t) (hln : l.getD i [] = xs)
    (hr : ∀ j, j < 2 → (numA d3 (arS q) j = 0 ∨ (numA d3 (arS q) j ≤ i + 1 ∧ l.getD (numA d3 (arS q) j - 1) [] = txtA d3 (arS q) j))) :
    loadE d3 (arS q) = 0 ∧ (txtA d3 (arS q) (tellA d3 (arS q)) = xs ∨ (saveE d (arS q) xs ≠ 0 ∧ txtA d3 (arS q) (tellA d3 (arS q)) = t)) := by
  obtain ⟨c1, c2, c3⟩ := h.crash h0 hi hl hq hx ns
  rw [← hd3] at c1 c2 c3
  have o1 : numA d3 (arS q) ((i + 1) % 2) = i := by unfold numA; rw [c2]
  have o2 : txtA d3 (arS q) ((i + 1) % 2) = t := by unfold txtA; rw [c2]
  have hq := hr (i % 2) (by omega)
  have hpos : topA d3 (arS q) ≠ 0 ∧ (txtA d3 (arS q) (tellA d3 (arS q)) = xs ∨ (saveE d (arS q) xs ≠ 0 ∧ txtA d3 (arS q) (tellA d3 (arS q)) = t)) := by
    have hn : saveE d (arS q) xs = 0 → numA d3 (arS q) (i % 2) = i + 1 ∧ txtA d3 (arS q) (i % 2) = xs := fun he => by
      have := c3 he
      exact ⟨by unfold numA; rw [this], by unfold txtA; rw [this]⟩
    have hcase : numA d3 (arS q) (i % 2) ≤ i + 1 := by
      rcases hq with e | ⟨e, _⟩ <;> omega
    by_cases hnew : numA d3 (arS q) (i % 2) = i + 1
    · have htx : txtA d3 (arS q) (i % 2) = xs := by
        rcases hq with e | ⟨_, e⟩
        · omega
        · rw [← e, hnew]; exact hln
      have htell : tellA d3 (arS q) = i % 2 := by
        unfold tellA
        rcases Nat.mod_two_eq_zero_or_one i with hp | hp
        · have hq' : (i + 1) % 2 = 1 := by omega
          rw [hp] at hnew ⊢; rw [hq'] at o1
          rw [if_neg (by omega)]
        · have hq' : (i + 1) % 2 = 0 := by omega
          rw [hp] at hnew ⊢; rw [hq'] at o1
          rw [if_pos (by omega)]
      exact ⟨by unfold topA; rw [htell]; omega, .inl (by rw [htell]; exact htx)⟩
    · have hne : saveE d (arS q) xs ≠ 0 := fun he => hnew (hn he).1
      have hle : numA d3 (arS q) (i % 2) ≤ i := by omega
      have htell : txtA d3 (arS q) (tellA d3 (arS q)) = t ∧ topA d3 (arS q) = i := by
        by_cases heq : numA d3 (arS q) (i % 2) = i
        · have htx : txtA d3 (arS q) (i % 2) = t := by
            rcases hq with e | ⟨_, e⟩
            · omega
            · rw [← e, heq]; exact hlt
          have hall : ∀ j, j < 2 → txtA d3 (arS q) j = t ∧ numA d3 (arS q) j = i := fun j hj => by
            have : j = i % 2 ∨ j = (i + 1) % 2 := by omega
            rcases this with rfl | rfl
            · exact ⟨htx, heq⟩
            · exact ⟨o2, o1⟩
          have hlt2 : tellA d3 (arS q) < 2 := by unfold tellA; split <;> omega
          exact hall _ hlt2
        · have htell : tellA d3 (arS q) = (i + 1) % 2 := by
            unfold tellA
            rcases Nat.mod_two_eq_zero_or_one i with hp | hp
            · have hq' : (i + 1) % 2 = 1 := by omega
              rw [hp] at heq hle; rw [hq'] at o1 ⊢
              rw [if_pos (by omega)]
            · have hq' : (i + 1) % 2 = 0 := by omega
              rw [hp] at heq hle; rw [hq'] at o1 ⊢
              rw [if_neg (by omega)]
          exact ⟨by rw [htell]; exact o2, by unfold topA; rw [htell]; exact o1⟩
      exact ⟨by rw [htell.2]; exact h0, .inr ⟨hne, htell.1⟩⟩
  refine ⟨?_, hpos.2⟩
  unfold loadE
  rw [if_neg (by simpa using still_look (by omega) c1), if_neg hpos.1]
/-- A new device. -/
theorem held_zero (xs : List Nat) : heldB (0 :: xs) = (0, []) := by
  unfold heldB
  rw [if_pos (.inr rfl)]
theorem tw_new (q : Nat) (hq : 1 ≤ q) (hq2 : q ≤ 100) : Tw q (newD 1 (2 * q)) 0 [] := by
  have hz : ∀ j, numA (newD 1 (2 * q)) (arS q) j = 0 := fun j => by
    obtain ⟨m, rfl⟩ : ∃ m, q = m + 1 := ⟨q - 1, by omega⟩
    unfold numA
    rw [half_eq, secsB_succ]
    have e : readD (newD 1 (2 * ((m + 1 : Nat) : Int))) (0, begA (arS (m + 1)) j) = 0 :: List.replicate 63 0 := rfl
    rw [e, List.cons_append, held_zero]
  exact ⟨⟨okD_new _ _, rfl, rfl, rfl, rfl, hq2⟩, fun _ => ⟨hz 0, hz 1⟩, fun e => absurd rfl e⟩
end Go.Proofs.YthaihallfjjnpaaGreatDoor
