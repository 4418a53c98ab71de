/- Plain facts on ranges of keys: what lies in one, what two have together, the range of a begin. No program is in it. -/
import Derived.Test.YtagamkahfiackaaGreatDoorCuNext
namespace Go.Proofs.YtagamkahfiackaaGreatDoor
open Go.Lib

/-- A range. -/
structure Rg where
  f : ByteArray
  t : ByteArray
  hf : Bool
  ht : Bool
  pf : Bool
  pt : Bool
/-- One of its ends. -/
structure En where
  t : ByteArray
  h : Bool
  o : Bool
def nil8 : ByteArray := ⟨#[]⟩
def sameb (a b : ByteArray) : Bool := !(ltb a b) && !(ltb b a)
theorem sameb_self (a : ByteArray) : sameb a a = true := by simp [sameb, ltb_irrefl]
theorem sameb_lt {a b : ByteArray} (h : ltb a b = true) : sameb a b = false := by simp [sameb, h]
theorem sameb_gt {a b : ByteArray} (h : ltb b a = true) : sameb a b = false := by simp [sameb, h]
def behR (r : Rg) (k : ByteArray) : Bool := !r.hf || ltb r.f k || (sameb k r.f && !r.pf)
def ahdR (r : Rg) (k : ByteArray) : Bool := !r.ht || ltb k r.t || (sameb k r.t && !r.pt)
def hasR (r : Rg) (k : ByteArray) : Bool := behR r k && ahdR r k
def empR (r : Rg) : Bool := r.hf && r.ht && (ltb r.t r.f || (sameb r.f r.t && (r.pf || r.pt)))
def frmE (r : Rg) : En := if r.hf then ⟨r.f, true, r.pf⟩ else ⟨nil8, false, false⟩
def toE (r : Rg) : En := if r.ht then ⟨r.t, true, r.pt⟩ else ⟨nil8, false, false⟩
/-- The narrower one of two ends: up: the greater text. -/
def narE (a b : En) (up : Bool) : En :=
  if a.h then (if b.h then (if (bif up then ltb b.t a.t else ltb a.t b.t) || (sameb a.t b.t && a.o) then a else b) else a) else b
def joinR (f t : En) : Rg := ⟨f.t, t.t, f.h, t.h, f.o, t.o⟩
def meetR (a b : Rg) : Rg := joinR (narE (frmE a) (frmE b) true) (narE (toE a) (toE b) false)
def oneR (k : ByteArray) : Rg := ⟨k, k, true, true, false, false⟩
def pfxR (s : ByteArray) : Rg := match nxt s.data.toList with
  | none => ⟨s, nil8, true, false, false, false⟩
  | some t => ⟨s, ⟨t.toArray⟩, true, true, false, true⟩
theorem ltb_false_le {a b : ByteArray} (h : ltb a b = false) : ltb b a = true ∨ a = b := by
  rcases ltb_cases a b with q | q | q
  · rw [h] at q; cases q
  · exact .inr q
  · exact .inl q
/-! ### Ends -/
/-- Whether an end lets a key in. -/
def inE (e : En) (up : Bool) (k : ByteArray) : Bool := !e.h || (bif up then ltb e.t k else ltb k e.t) || (sameb k e.t && !e.o)
theorem beh_frm (r : Rg) (k : ByteArray) : behR r k = inE (frmE r) true k := by
  unfold behR inE frmE
  cases r.hf <;> simp
theorem ahd_to (r : Rg) (k : ByteArray) : ahdR r k = inE (toE r) false k := by
  unfold ahdR inE toE
  cases r.ht <;> simp
theorem nar_in (a b : En) (up : Bool) (k : ByteArray) : inE (narE a b up) up k = (inE a up k && inE b up k) := by
  obtain ⟨ta, ha, oa⟩ := a
  obtain ⟨tb, hb, ob⟩ := b
  cases ha with
  | false => simp [narE, inE]
  | true =>
    cases hb with
    | false => simp [narE, inE]
    | true =>
      have key : ∀ {p q : ByteArray}, ltb p q = true → ltb q p = false := ltb_asymm
      unfold narE inE
      simp only [if_true, Bool.not_true, Bool.false_or]
      cases up with
      | true =>
        simp only [cond_true]
        rcases ltb_cases tb ta with h | rfl | h
        · simp only [h, Bool.true_or, if_true]
          rcases ltb_cases ta k with q | rfl | q
          · simp [q, ltb_trans h q]
          · simp [h, sameb_self, sameb_gt h, ltb_irrefl]
          · simp [key q, sameb_lt q]
        · simp only [ltb_irrefl, sameb_self, Bool.false_or, Bool.true_and]
          cases oa <;> simp only [if_true, if_false, Bool.false_eq_true, Bool.not_true, Bool.not_false, Bool.false_or, Bool.and_true, Bool.and_false, Bool.or_false] <;> generalize ltb tb k = p <;> generalize sameb k tb = q <;> revert ob p q <;> decide
        · simp only [key h, sameb_lt h, Bool.false_or, Bool.false_and, Bool.false_eq_true, if_false]
          rcases ltb_cases tb k with q | rfl | q
          · simp [q, ltb_trans h q]
          · simp [h, sameb_self, sameb_gt h, ltb_irrefl]
          · simp [key q, sameb_lt q]
      | false =>
        simp only [cond_false]
        rcases ltb_cases ta tb with h | rfl | h
        · simp only [h, Bool.true_or, if_true]
          rcases ltb_cases k ta with q | rfl | q
          · simp [q, ltb_trans q h]
          · simp [h, sameb_self, sameb_lt h, ltb_irrefl]
          · simp [key q, sameb_gt q]
        · simp only [ltb_irrefl, sameb_self, Bool.false_or, Bool.true_and]
          cases oa <;> simp only [if_true, if_false, Bool.false_eq_true, Bool.not_true, Bool.not_false, Bool.false_or, Bool.and_true, Bool.and_false, Bool.or_false] <;> generalize ltb k ta = p <;> generalize sameb k ta = q <;> revert ob p q <;> decide
        · simp only [key h, sameb_gt h, Bool.false_or, Bool.false_and, Bool.false_eq_true, if_false]
          rcases ltb_cases k tb with q | rfl | q
          · simp [q, ltb_trans q h]
          · simp [h, sameb_self, sameb_lt h, ltb_irrefl]
          · simp [key q, sameb_gt q]
theorem frm_join (a b : En) (ha : a.h = false → a = ⟨nil8, false, false⟩) : frmE (joinR a b) = a := by
  unfold frmE joinR
  cases h : a.h with
  | true => simp [← h]
  | false => simp [ha h]
theorem to_join (a b : En) (hb : b.h = false → b = ⟨nil8, false, false⟩) : toE (joinR a b) = b := by
  unfold toE joinR
  cases h : b.h with
  | true => simp [← h]
  | false => simp [hb h]
theorem frm_zero (r : Rg) : (frmE r).h = false → frmE r = ⟨nil8, false, false⟩ := by unfold frmE; cases r.hf <;> simp
theorem to_zero (r : Rg) : (toE r).h = false → toE r = ⟨nil8, false, false⟩ := by unfold toE; cases r.ht <;> simp
theorem nar_zero {a b : En} {up : Bool} (hb : b.h = false → b = ⟨nil8, false, false⟩) : (narE a b up).h = false → narE a b up = ⟨nil8, false, false⟩ := by
  unfold narE
  cases h1 : a.h with
  | false => simpa using hb
  | true =>
    cases h2 : b.h with
    | false => simp [h1]
    | true => simp only [if_true]; split <;> simp [h1, h2]
theorem has_meet (a b : Rg) (k : ByteArray) : hasR (meetR a b) k = (hasR a k && hasR b k) := by
  unfold hasR
  rw [beh_frm (meetR a b), ahd_to (meetR a b)]
  unfold meetR
  rw [frm_join _ _ (nar_zero (frm_zero b)), to_join _ _ (nar_zero (to_zero b)), nar_in, nar_in, ← beh_frm, ← beh_frm, ← ahd_to, ← ahd_to]
  cases behR a k <;> cases behR b k <;> cases ahdR a k <;> cases ahdR b k <;> rfl
theorem emp_has {r : Rg} {k : ByteArray} (h : empR r = true) : hasR r k = false := by
  obtain ⟨f, t, hf, ht, pf, po⟩ := r
  unfold empR at h
  simp only [Bool.and_eq_true, Bool.or_eq_true] at h
  obtain ⟨⟨h1, h2⟩, h3⟩ := h
  unfold hasR behR ahdR
  dsimp only at h1 h2 h3 ⊢
  subst h1 h2
  simp only [Bool.not_true, Bool.false_or]
  rcases h3 with h3 | ⟨h3, h4⟩
  · rcases ltb_cases f k with q | rfl | q
    · have := ltb_trans h3 q; simp [ltb_asymm this, sameb_gt this]
    · simp [ltb_asymm h3, sameb_gt h3]
    · simp [ltb_asymm q, sameb_lt q]
  · have e : f = t := by
      unfold sameb at h3
      simp only [Bool.and_eq_true, Bool.not_eq_true'] at h3
      exact ltb_total h3.1 h3.2
    subst e
    rcases ltb_cases f k with q | rfl | q
    · simp [ltb_asymm q, sameb_gt q]
    · rcases h4 with h4 | h4 <;> simp [ltb_irrefl, h4]
    · simp [ltb_asymm q, sameb_lt q]
theorem has_one (k : ByteArray) : hasR (oneR k) k = true := by simp [hasR, behR, ahdR, oneR, sameb_self]
theorem ltb_data (a b : ByteArray) : ltb a b = Op.bytesLess a.data.toList b.data.toList := by unfold ltb; rw [Lib.toList_data, Lib.toList_data]
theorem pre_le : ∀ (l o : List UInt8), Op.bytesLess (l ++ o) l = false
  | [], o => by cases o <;> rfl
  | c :: l, o => by simp [Op.bytesLess, pre_le l o]
theorem sameb_data (a b : ByteArray) : sameb a b = decide (a = b) := by
  by_cases h : a = b
  · subst h; simp [sameb_self]
  · rcases ltb_cases a b with q | q | q
    · simp [sameb_lt q, h]
    · exact absurd q h
    · simp [sameb_gt q, h]
theorem has_pfx (s k : ByteArray) : hasR (pfxR s) k = true ↔ s.data.toList <+: k.data.toList := by
  have hge : (behR (pfxR s) k = true) ↔ ltb k s = false := by
    have e1 : (pfxR s).hf = true ∧ (pfxR s).f = s ∧ (pfxR s).pf = false := by unfold pfxR; cases nxt s.data.toList <;> exact ⟨rfl, rfl, rfl⟩
    unfold behR
    rw [e1.1, e1.2.1, e1.2.2]
    rcases ltb_cases s k with q | rfl | q
    · simp [q, ltb_asymm q]
    · simp [sameb_self, ltb_irrefl]
    · simp [q, ltb_asymm q, sameb_lt q]
  constructor
  · intro h
    unfold hasR at h
    simp only [Bool.and_eq_true] at h
    have h1 := hge.1 h.1
    rw [ltb_data] at h1
    cases hn : nxt s.data.toList with
    | none => exact full_prefix _ _ ((nxt_none _).1 hn) h1
    | some t =>
      have h2 := h.2
      unfold ahdR pfxR at h2
      rw [hn] at h2
      simp only [Bool.not_true, Bool.false_or, Bool.and_false, Bool.or_false] at h2
      rw [ltb_data] at h2
      exact nxt_between hn h1 h2
  · rintro ⟨o, ho⟩
    unfold hasR
    simp only [Bool.and_eq_true]
    refine ⟨hge.2 (by rw [ltb_data, ← ho]; exact pre_le _ _), ?_⟩
    unfold ahdR pfxR
    cases hn : nxt s.data.toList with
    | none => rfl
    | some t =>
      simp only [Bool.not_true, Bool.false_or, Bool.and_false, Bool.or_false]
      rw [ltb_data, ← ho]
      exact nxt_above hn o
end Go.Proofs.YtagamkahfiackaaGreatDoor
