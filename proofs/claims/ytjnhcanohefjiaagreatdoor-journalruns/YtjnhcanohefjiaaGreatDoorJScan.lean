/- What a scan tells, plainly: the records that are there, and what stands behind records. -/
import Derived.Test.YtjnhcanohefjiaaGreatDoorJJA
namespace Go.Proofs.YtjnhcanohefjiaaGreatDoor
open Go.RowKit Go.Sort Go.Maps

theorem scan_ok_in (ep : Nat) : ∀ (n : Nat) (xs : List Nat), xs.length ≤ n → (∀ x ∈ xs, x < 256) → xs.take (scan ep xs).2 = allB ep (scan ep xs).1 ∧ (scan ep xs).2 ≤ xs.length ∧ (scan ep xs).2 = (allB ep (scan ep xs).1).length ∧ ∀ p ∈ (scan ep xs).1, OkP p
  | 0, xs, hn, hb => by
    have e : xs = [] := List.eq_nil_of_length_eq_zero (by omega)
    subst e
    rw [scan_stop ep [] (by rw [one_nil]; decide)]
    exact ⟨rfl, Nat.le_refl _, rfl, fun p hp => by cases hp⟩
  | n + 1, xs, hn, hb => by
    by_cases h : (one ep xs).2.2 = 0
    · have h7 := one_pos ep xs hb h
      obtain ⟨o1, o2, o3, o4, o5, o6, _⟩ := one_ok ep xs hb h
      have hd : ∀ x ∈ xs.drop (one ep xs).2.1, x < 256 := fun x hx => hb x (List.mem_of_mem_drop hx)
      obtain ⟨i1, i2, i3, i4⟩ := scan_ok_in ep n (xs.drop (one ep xs).2.1) (by rw [List.length_drop]; omega) hd
      rw [List.length_drop] at i2
      rw [scan_go ep xs hb h]
      refine ⟨?_, by show (one ep xs).2.1 + _ ≤ _; omega, ?_, fun p hp => ?_⟩
      · show xs.take ((one ep xs).2.1 + _) = allB ep (_ :: _)
        rw [List.take_add, i1, o1, allB_cons]
      · show (one ep xs).2.1 + _ = (allB ep (_ :: _)).length
        rw [allB_cons, List.length_append, ← o3, ← i3]
      · rcases List.mem_cons.1 hp with rfl | hp
        · exact ⟨o4, o5, one_byte ep xs hb⟩
        · exact i4 p hp
    · rw [scan_stop ep xs h]
      exact ⟨rfl, Nat.zero_le _, rfl, fun p hp => by cases hp⟩
/-- What is told was framed. -/
theorem scan_ok (ep : Nat) (xs : List Nat) (hb : ∀ x ∈ xs, x < 256) : xs.take (scan ep xs).2 = allB ep (scan ep xs).1 ∧ (scan ep xs).2 ≤ xs.length ∧ (scan ep xs).2 = (allB ep (scan ep xs).1).length ∧ ∀ p ∈ (scan ep xs).1, OkP p := scan_ok_in ep xs.length xs (Nat.le_refl _) hb
/-- Records that stand ahead are told, whatever stands behind them. -/
theorem scan_more (ep : Nat) (he : ep < 18446744073709551616) (ys : List Nat) (hy : ∀ x ∈ ys, x < 256) : ∀ pss : List (List Nat), (∀ p ∈ pss, OkP p) → scan ep (allB ep pss ++ ys) = (pss ++ (scan ep ys).1, (allB ep pss).length + (scan ep ys).2)
  | [], _ => by rw [allB_nil, List.nil_append, List.nil_append, List.length_nil, Nat.zero_add]
  | p :: pss, h => by
    have hp := h p (List.mem_cons_self ..)
    have ih := scan_more ep he ys hy pss (fun q hq => h q (List.mem_cons_of_mem _ hq))
    have hb : ∀ x ∈ allB ep (p :: pss) ++ ys, x < 256 := fun x hx => by
      rcases List.mem_append.1 hx with hx | hx
      · exact allB_byte ep _ h x hx
      · exact hy x hx
    have e : allB ep (p :: pss) ++ ys = recB ep p ++ (allB ep pss ++ ys) := by rw [allB_cons, List.append_assoc]
    have h1 := one_rec ep p (allB ep pss ++ ys) he hp.1 hp.2.1
    rw [← e] at h1
    rw [scan_go ep _ hb (by rw [h1]), h1]
    simp only
    rw [e, List.drop_left, ih, allB_cons, List.length_append, List.cons_append, Nat.add_assoc]
theorem one_zeros (ep k : Nat) : (one ep (List.replicate k 0)).2.2 ≠ 0 := by
  have h : hdR (List.replicate k 0) = (0, 0, 0, 8) := by
    unfold hdR
    rw [if_pos]
    cases k with
    | zero => exact .inl rfl
    | succ k => exact .inr rfl
  unfold one
  rw [h, if_pos (by decide)]
  decide
/-- Records, and noughts behind them. -/
theorem scan_zeros (ep : Nat) (he : ep < 18446744073709551616) (pss : List (List Nat)) (h : ∀ p ∈ pss, OkP p) (k : Nat) : scan ep (allB ep pss ++ List.replicate k 0) = (pss, (allB ep pss).length) :=
  scan_all ep he _ (fun x hx => by have := List.eq_of_mem_replicate hx; omega) (one_zeros ep k) pss h
/-- What is told of an area in which records lie. -/
theorem scan_lies {d : Dev} {a : Ar} {ep : Nat} {pss : List (List Nat)} (hok : okD d) (he : ep < 18446744073709551616) (h : ∀ p ∈ pss, OkP p) (hl : (allB ep pss).length ≤ 64 * a.s.toNat) (hb : Lies d a (allB ep pss)) : scan ep (heldJ d a) = (pss, (allB ep pss).length) := by
  rw [lies_held hok hb hl]
  exact scan_zeros ep he pss h _
/-- The journal that is opened. -/
def openJ (d : Dev) (a : Ar) (ep : Nat) : Jr := ⟨a, ep, (scan ep (heldJ d a)).1, (scan ep (heldJ d a)).1.length, 0⟩
theorem open_row {d : Dev} {a : Ar} {ep : Nat} (hok : okD d) : (openJ d a ep).row = (heldJ d a).take (scan ep (heldJ d a)).2 := (scan_ok ep _ (held_byte hok a)).1.symm
theorem open_okJ {d : Dev} {a : Ar} {ep : Nat} (hok : okD d) (hin : inJ d a) (hlim : 1 ≤ d.r ∧ d.r ≤ 16 ∧ 1 ≤ d.s ∧ d.s ≤ 16384) (he : ep < 18446744073709551616) : okJ (openJ d a ep) := by
  obtain ⟨s1, s2, s3, s4⟩ := scan_ok ep _ (held_byte hok a)
  obtain ⟨i1, i2, i3, i4, i5, i6⟩ := hin
  refine ⟨s4, he, Nat.le_refl _, ?_, ⟨i1, by show a.g ≤ 16; omega⟩, ⟨i3, by show a.f ≤ 16384; omega⟩, i4, by show a.s ≤ 16384; omega⟩
  show (allB ep (scan ep (heldJ d a)).1).length ≤ 64 * a.s.toNat
  rw [← s3]
  rw [held_len hok] at s2
  exact s2
theorem open_begins {d : Dev} {a : Ar} {ep : Nat} (hok : okD d) : Begins d a (openJ d a ep).row := by rw [open_row hok]; exact begins_held hok _
/-- What is opened of a device that is calm. -/
theorem open_good {d : Dev} {a : Ar} {ep : Nat} (hok : okD d) (hp : d.pend = []) (hc : d.crashed = false) (ha : d.armed = false) (hin : inJ d a) (hlim : 1 ≤ d.r ∧ d.r ≤ 16 ∧ 1 ≤ d.s ∧ d.s ≤ 16384) (he : ep < 18446744073709551616) :
    cleanE a (openJ d a ep).row d = 0 ∧ (cleanD a (openJ d a ep).row d).armed = false ∧ (cleanD a (openJ d a ep).row d).pend = [] ∧ (cleanD a (openJ d a ep).row d).crashed = false ∧ okD (cleanD a (openJ d a ep).row d) ∧ Lies (cleanD a (openJ d a ep).row d) a (openJ d a ep).row ∧ (cleanD a (openJ d a ep).row d).r = d.r ∧ (cleanD a (openJ d a ep).row d).s = d.s := by
  have hx := (open_okJ hok hin hlim he).byte
  have hb := open_begins (a := a) (ep := ep) hok
  obtain ⟨c1, c2⟩ := clean_calm hok hp hc hin hx hb ha
  obtain ⟨g1, g2, g3, g4, g5, g6⟩ := clean_good hok hp hc hin hx hb c1
  exact ⟨c1, c2, g1, g2, g3, g4, g5, g6⟩
end Go.Proofs.YtjnhcanohefjiaaGreatDoor
