/- A text kept twice, plainly: what a half holds, what is told, what is laid and written, what a crash leaves. -/
import Derived.Test.YtjnhcanohefjiaaGreatDoorTPlain
import Derived.Test.YtjnhcanohefjiaaGreatDoorDMath
namespace Go.Proofs.YtjnhcanohefjiaaGreatDoor

/-- What bytes hold: the number (0: nothing), the text. -/
def heldB (xs : List Nat) : Nat × List Nat :=
  if (rdU xs).2.2 ≠ 0 ∨ (rdU xs).1 = 0 then (0, [])
  else if (rdT (xs.drop (rdU xs).2.1) xs.length).2.2 ≠ 0 then (0, [])
  else if xs.length < (rdU xs).2.1 + (rdT (xs.drop (rdU xs).2.1) xs.length).2.1 + 4 then (0, [])
  else if (opn (xs.take ((rdU xs).2.1 + (rdT (xs.drop (rdU xs).2.1) xs.length).2.1 + 4))).2 ≠ 0 then (0, [])
  else ((rdU xs).1, (rdT (xs.drop (rdU xs).2.1) xs.length).1)
/-- A text with its number, as bytes, and their sum. -/
def bodyB (n : Nat) (xs : List Nat) : List Nat := enc n ++ enc xs.length ++ xs
def laidB (n : Nat) (xs : List Nat) : List Nat := bodyB n xs ++ four (sm 0 (bodyB n xs))
theorem bodyB_byte {n : Nat} {xs : List Nat} (hx : ∀ x ∈ xs, x < 256) : ∀ x ∈ bodyB n xs, x < 256 := by
  intro x h
  simp only [bodyB, List.mem_append] at h
  rcases h with (h | h) | h
  · exact enc_byte _ x h
  · exact enc_byte _ x h
  · exact hx x h
theorem laidB_byte {n : Nat} {xs : List Nat} (hx : ∀ x ∈ xs, x < 256) : ∀ x ∈ laidB n xs, x < 256 := by
  intro x h
  simp only [laidB, List.mem_append] at h
  rcases h with h | h
  · exact bodyB_byte hx x h
  · exact four_byte _ x h
theorem laidB_len (n : Nat) (xs : List Nat) : (laidB n xs).length = (enc n).length + (enc xs.length).length + xs.length + 4 := by
  simp [laidB, bodyB, four]; omega
theorem opn_sealed (ys : List Nat) : opn (ys ++ four (sm 0 ys)) = (ys, 0) := by
  have h4 : (four (sm 0 ys)).length = 4 := rfl
  have hl : (ys ++ four (sm 0 ys)).length = ys.length + 4 := by rw [List.length_append, h4]
  unfold opn
  rw [if_neg (by omega), hl, show ys.length + 4 - 4 = ys.length by omega, List.drop_left, List.take_left, if_pos rfl]
theorem rdT_enc (xs rest : List Nat) (most : Nat) (hl : xs.length < 18446744073709551616) (hm : xs.length ≤ most) : rdT (enc xs.length ++ (xs ++ rest)) most = (xs, (enc xs.length).length + xs.length, 0) := by
  unfold rdT
  rw [rdU_enc _ _ hl]
  rw [if_neg (by omega), if_neg (by simp), if_neg (by show ¬ ((most : Int) < (xs.length : Int)); omega), if_neg (by simp)]
  simp
theorem held_laid (n : Nat) (xs rest : List Nat) (hn : n < 18446744073709551616) (h0 : n ≠ 0) (hl : xs.length < 18446744073709551616) : heldB (laidB n xs ++ rest) = (n, xs) := by
  have e1 : laidB n xs ++ rest = enc n ++ (enc xs.length ++ (xs ++ (four (sm 0 (bodyB n xs)) ++ rest))) := by simp [laidB, bodyB]
  have hlen : (laidB n xs ++ rest).length = (enc n).length + (enc xs.length).length + xs.length + 4 + rest.length := by rw [List.length_append, laidB_len]
  have hu : rdU (laidB n xs ++ rest) = (n, (enc n).length, 0) := by rw [e1, rdU_enc n _ hn]
  have hd : (laidB n xs ++ rest).drop (enc n).length = enc xs.length ++ (xs ++ (four (sm 0 (bodyB n xs)) ++ rest)) := by rw [e1, List.drop_left]
  have ht := rdT_enc xs (four (sm 0 (bodyB n xs)) ++ rest) (laidB n xs ++ rest).length hl (by omega)
  have hk : (laidB n xs ++ rest).take ((enc n).length + ((enc xs.length).length + xs.length) + 4) = laidB n xs := by
    rw [show (enc n).length + ((enc xs.length).length + xs.length) + 4 = (laidB n xs).length by rw [laidB_len]; omega, List.take_left]
  unfold heldB
  simp only [hu, hd, ht, hk]
  rw [if_neg (by simp [h0]), if_neg (by simp), if_neg (by omega), if_neg (by unfold laidB; rw [opn_sealed]; simp)]

/-- Where a twin lies. -/
structure Ar where
  g : Int
  f : Int
  s : Int
abbrev inA (d : Dev) (a : Ar) : Prop := 0 ≤ a.g ∧ a.g < d.r ∧ 0 ≤ a.f ∧ 2 ≤ a.s ∧ a.s ≤ d.s ∧ a.f ≤ d.s - a.s
def roomA (a : Ar) : Int := if a.s < 2 ∨ 16384 < a.s then 0 else max 0 (a.s / 2 * 64 - 24)
def lookE (d : Dev) (a : Ar) : Nat := if ¬ inA d a then 1 else if d.crashed = true then 60 else 0
/-- The bytes of sectors, one behind the other. -/
def secsB (d : Dev) (g f : Int) (n : Nat) : List Nat := ((List.range n).map fun (i : Nat) => readD d (g, f + i)).flatten
def begA (a : Ar) (h : Nat) : Int := a.f + h * (a.s / 2)
def halfA (d : Dev) (a : Ar) (h : Nat) : List Nat := secsB d a.g (begA a h) (a.s / 2).toNat
def numA (d : Dev) (a : Ar) (h : Nat) : Nat := (heldB (halfA d a h)).1
def txtA (d : Dev) (a : Ar) (h : Nat) : List Nat := (heldB (halfA d a h)).2
/-- Which half is told. -/
def tellA (d : Dev) (a : Ar) : Nat := if numA d a 1 > numA d a 0 then 1 else 0
def topA (d : Dev) (a : Ar) : Nat := numA d a (tellA d a)
def nextH (d : Dev) (a : Ar) : Nat := if topA d a = 0 then 0 else 1 - tellA d a
def nextN (d : Dev) (a : Ar) : Nat := if topA d a = 0 then 1 else (topA d a + 1) % 18446744073709551616
/-- Bytes in parts of a sector. -/
def chk (xs : List Nat) : List (List Nat) := if xs = [] then [] else xs.take 64 :: chk (xs.drop 64)
  termination_by xs.length
  decreasing_by
    rename_i h
    have : 0 < xs.length := List.length_pos_iff.2 h
    simp; omega
theorem chk_nil : chk [] = [] := by rw [chk, if_pos rfl]
theorem chk_cons {xs : List Nat} (h : xs ≠ []) : chk xs = xs.take 64 :: chk (xs.drop 64) := by rw [chk, if_neg h]
theorem chk_ind {P : List Nat → Prop} (h0 : P []) (h1 : ∀ xs, xs ≠ [] → P (xs.drop 64) → P xs) (xs : List Nat) : P xs := by
  generalize hn : xs.length = n
  induction n using Nat.strongRecOn generalizing xs with
  | _ n ih =>
    by_cases h : xs = []
    · rw [h]; exact h0
    · have hp : 0 < xs.length := List.length_pos_iff.2 h
      exact h1 xs h (ih (xs.drop 64).length (by rw [List.length_drop]; omega) _ rfl)
theorem chk_len (xs : List Nat) : (chk xs).length = (xs.length + 63) / 64 := by
  refine chk_ind (P := fun xs => (chk xs).length = (xs.length + 63) / 64) ?_ ?_ xs
  · rw [chk_nil]; rfl
  · intro xs h ih
    have hp : 0 < xs.length := List.length_pos_iff.2 h
    rw [chk_cons h, List.length_cons, ih, List.length_drop]
    omega
theorem chk_part (xs : List Nat) : ∀ c ∈ chk xs, c ≠ [] ∧ c.length ≤ 64 := by
  refine chk_ind (P := fun xs => ∀ c ∈ chk xs, c ≠ [] ∧ c.length ≤ 64) ?_ ?_ xs
  · rw [chk_nil]; simp
  · intro xs h ih c hc
    have hp : 0 < xs.length := List.length_pos_iff.2 h
    rw [chk_cons h] at hc
    rcases List.mem_cons.1 hc with rfl | hc
    · refine ⟨fun e => ?_, by rw [List.length_take]; omega⟩
      have := congrArg List.length e
      rw [List.length_take, List.length_nil] at this
      omega
    · exact ih c hc
theorem chk_byte (xs : List Nat) (hx : ∀ x ∈ xs, x < 256) : ∀ c ∈ chk xs, ∀ x ∈ c, x < 256 := by
  revert hx
  refine chk_ind (P := fun xs => (∀ x ∈ xs, x < 256) → ∀ c ∈ chk xs, ∀ x ∈ c, x < 256) ?_ ?_ xs
  · rw [chk_nil]; simp
  · intro xs h ih hx c hc
    rw [chk_cons h] at hc
    rcases List.mem_cons.1 hc with rfl | hc
    · exact fun x hx' => hx x (List.mem_of_mem_take hx')
    · exact ih (fun x hx' => hx x (List.mem_of_mem_drop hx')) c hc
/-- Parts written one behind the other, up to the first error. -/
def wrL (d : Dev) (g f : Int) : List (List Nat) → Dev × Nat
  | [] => (d, 0)
  | c :: r => if wErr d (g, f) c.length ≠ 0 then (writeD d (g, f) c, wErr d (g, f) c.length) else wrL (writeD d (g, f) c) g (f + 1) r
def wroteD (d : Dev) (a : Ar) (xs : List Nat) : Dev × Nat := wrL d a.g (begA a (nextH d a)) (chk (laidB (nextN d a) xs))
/-- What Save makes of a device, and its error. -/
def saveD (d : Dev) (a : Ar) (xs : List Nat) : Dev := if lookE d a ≠ 0 ∨ roomA a < xs.length then d else if (wroteD d a xs).2 ≠ 0 then (wroteD d a xs).1 else syncD (wroteD d a xs).1 a.g
def saveE (d : Dev) (a : Ar) (xs : List Nat) : Nat := if lookE d a ≠ 0 then lookE d a else if roomA a < xs.length then 2 else if (wroteD d a xs).2 ≠ 0 then (wroteD d a xs).2 else sErr (wroteD d a xs).1 a.g
def loadE (d : Dev) (a : Ar) : Nat := if lookE d a ≠ 0 then lookE d a else if topA d a = 0 then 8 else 0
end Go.Proofs.YtjnhcanohefjiaaGreatDoor
