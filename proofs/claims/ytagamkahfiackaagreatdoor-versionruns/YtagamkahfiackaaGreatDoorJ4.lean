/- Plain facts on the least text above all that begin with one. No program is in it; Plain facts on ranges of keys: what lies in one, what two have together, the range of a begin. No program is in it; Plain facts: chains of versions; keys in order with their chains. No program is in it; How bytes lie in memory; bytes appended to a row of one's own; string(b); Versions and chains in memory; bytes.Clone; The walks of last, upTo, row and with; The walks of upTo and row. -/
import Derived.Test.YtagamkahfiackaaGreatDoorJ1
import Derived.Laws.BytesArg
import Derived.Lib.AppendStr
import Derived.Lib.ConvBytes
import Derived.Deep.AppendLies
namespace Go.Proofs.YtagamkahfiackaaGreatDoor
open Go.Lib

/-- The least text above all that begin with l, if there is one. -/
def nxt : List UInt8 → Option (List UInt8)
  | [] => none
  | c :: l => match nxt l with
    | some t => some (c :: t)
    | none => if c.toNat = 255 then none else some [UInt8.ofNat (c.toNat + 1)]
def full (l : List UInt8) : Prop := ∀ c ∈ l, c.toNat = 255
theorem nxt_none : ∀ l, nxt l = none ↔ full l
  | [] => by simp [nxt, full]
  | c :: l => by
    have ih := nxt_none l
    rw [nxt]
    cases h : nxt l with
    | some t =>
      have : ¬ full l := fun hf => by rw [ih.2 hf] at h; cases h
      refine ⟨(fun e => by cases e), fun hf => absurd (fun x hx => hf x (by simp [hx])) this⟩
    | none =>
      have hf := ih.1 h
      by_cases hc : c.toNat = 255
      · simp only [if_pos hc, true_iff]
        intro x hx
        rcases List.mem_cons.1 hx with rfl | hx
        · exact hc
        · exact hf x hx
      · simp only [if_neg hc]
        exact ⟨(fun e => by cases e), fun hh => absurd (hh c (by simp)) hc⟩
theorem up_byte {c : UInt8} (h : ¬ c.toNat = 255) : (UInt8.ofNat (c.toNat + 1)).toNat = c.toNat + 1 := by
  have := c.toNat_lt
  rw [UInt8.toNat_ofNat']; omega
/-- Where it is: behind the last byte that is not 255 all is cut off. -/
theorem nxt_at : ∀ (p : List UInt8) (c : UInt8) (q : List UInt8), ¬ c.toNat = 255 → full q → nxt (p ++ c :: q) = some (p ++ [UInt8.ofNat (c.toNat + 1)])
  | [], c, q, hc, hq => by
    rw [List.nil_append, nxt, (nxt_none q).2 hq]
    simp only [if_neg hc]
    rfl
  | x :: p, c, q, hc, hq => by rw [List.cons_append, nxt, nxt_at p c q hc hq]; rfl
theorem nxt_above : ∀ {l t : List UInt8}, nxt l = some t → ∀ b, Op.bytesLess (l ++ b) t = true
  | [], t, h, _ => by cases h
  | c :: l, t, h, b => by
    rw [nxt] at h
    cases hn : nxt l with
    | some u =>
      rw [hn] at h
      cases h
      rw [List.cons_append, less_cons]
      exact .inr ⟨rfl, nxt_above hn b⟩
    | none =>
      rw [hn] at h
      by_cases hc : c.toNat = 255
      · simp only [if_pos hc] at h; cases h
      · simp only [if_neg hc] at h
        cases h
        rw [List.cons_append, less_cons, up_byte hc]
        exact .inl (by omega)
theorem full_prefix : ∀ l o : List UInt8, full l → Op.bytesLess o l = false → l <+: o
  | [], _, _, _ => List.nil_prefix
  | c :: l, [], _, h => by simp [Op.bytesLess] at h
  | c :: l, d :: o, hf, h => by
    have n1 : ¬ Op.bytesLess (d :: o) (c :: l) = true := by rw [h]; simp
    rw [less_cons] at n1
    have hc := hf c (by simp)
    have hd := d.toNat_lt
    have e : d = c := UInt8.toNat_inj.1 (by omega)
    subst e
    have := full_prefix l o (fun x hx => hf x (by simp [hx])) (by by_cases hh : Op.bytesLess o l = true; exact absurd (Or.inr ⟨rfl, hh⟩) n1; simpa using hh)
    exact List.prefix_cons_inj d |>.2 this
theorem nxt_between : ∀ {l t o : List UInt8}, nxt l = some t → Op.bytesLess o l = false → Op.bytesLess o t = true → l <+: o
  | [], t, o, h, _, _ => by cases h
  | c :: l, t, [], _, h, _ => by simp [Op.bytesLess] at h
  | c :: l, t, d :: o, h, h1, h2 => by
    have n1 : ¬ Op.bytesLess (d :: o) (c :: l) = true := by rw [h1]; simp
    rw [less_cons] at n1
    rw [nxt] at h
    cases hn : nxt l with
    | some u =>
      rw [hn] at h
      cases h
      rw [less_cons] at h2
      rcases h2 with h2 | ⟨rfl, h2⟩
      · exact absurd (Or.inl h2) n1
      · have hl : Op.bytesLess o l = false := by
          by_cases hh : Op.bytesLess o l = true
          · exact absurd (Or.inr ⟨rfl, hh⟩) n1
          · simpa using hh
        exact (List.prefix_cons_inj d).2 (nxt_between hn hl h2)
    | none =>
      rw [hn] at h
      by_cases hc : c.toNat = 255
      · simp only [if_pos hc] at h; cases h
      · simp only [if_neg hc] at h
        cases h
        rw [less_cons, up_byte hc] at h2
        have hdc : d.toNat ≤ c.toNat := by
          rcases h2 with h2 | ⟨_, h2⟩
          · omega
          · cases o <;> simp [Op.bytesLess] at h2
        have e : d = c := UInt8.toNat_inj.1 (by omega)
        subst e
        have hl : Op.bytesLess o l = false := by
          by_cases hh : Op.bytesLess o l = true
          · exact absurd (Or.inr ⟨rfl, hh⟩) n1
          · simpa using hh
        exact (List.prefix_cons_inj d).2 (full_prefix l o ((nxt_none l).1 hn) hl)
end Go.Proofs.YtagamkahfiackaaGreatDoor

namespace Go.Proofs.YtagamkahfiackaaGreatDoor
open Go.Lib

/-- A range. -/
structure Rg where
  f : ByteArray
  t : ByteArray
  hf : Bool
  ht : Bool
  pf : Bool
  pt : Bool
/-- One of its ends. -/
structure En where
  t : ByteArray
  h : Bool
  o : Bool
def nil8 : ByteArray := ⟨#[]⟩
def sameb (a b : ByteArray) : Bool := !(ltb a b) && !(ltb b a)
theorem sameb_self (a : ByteArray) : sameb a a = true := by simp [sameb, ltb_irrefl]
theorem sameb_lt {a b : ByteArray} (h : ltb a b = true) : sameb a b = false := by simp [sameb, h]
theorem sameb_gt {a b : ByteArray} (h : ltb b a = true) : sameb a b = false := by simp [sameb, h]
def behR (r : Rg) (k : ByteArray) : Bool := !r.hf || ltb r.f k || (sameb k r.f && !r.pf)
def ahdR (r : Rg) (k : ByteArray) : Bool := !r.ht || ltb k r.t || (sameb k r.t && !r.pt)
def hasR (r : Rg) (k : ByteArray) : Bool := behR r k && ahdR r k
def empR (r : Rg) : Bool := r.hf && r.ht && (ltb r.t r.f || (sameb r.f r.t && (r.pf || r.pt)))
def frmE (r : Rg) : En := if r.hf then ⟨r.f, true, r.pf⟩ else ⟨nil8, false, false⟩
def toE (r : Rg) : En := if r.ht then ⟨r.t, true, r.pt⟩ else ⟨nil8, false, false⟩
/-- The narrower one of two ends: up: the greater text. -/
def narE (a b : En) (up : Bool) : En :=
  if a.h then (if b.h then (if (bif up then ltb b.t a.t else ltb a.t b.t) || (sameb a.t b.t && a.o) then a else b) else a) else b
def joinR (f t : En) : Rg := ⟨f.t, t.t, f.h, t.h, f.o, t.o⟩
def meetR (a b : Rg) : Rg := joinR (narE (frmE a) (frmE b) true) (narE (toE a) (toE b) false)
def oneR (k : ByteArray) : Rg := ⟨k, k, true, true, false, false⟩
def pfxR (s : ByteArray) : Rg := match nxt s.data.toList with
  | none => ⟨s, nil8, true, false, false, false⟩
  | some t => ⟨s, ⟨t.toArray⟩, true, true, false, true⟩
theorem ltb_false_le {a b : ByteArray} (h : ltb a b = false) : ltb b a = true ∨ a = b := by
  rcases ltb_cases a b with q | q | q
  · rw [h] at q; cases q
  · exact .inr q
  · exact .inl q
/-! ### Ends -/
/-- Whether an end lets a key in. -/
def inE (e : En) (up : Bool) (k : ByteArray) : Bool := !e.h || (bif up then ltb e.t k else ltb k e.t) || (sameb k e.t && !e.o)
theorem beh_frm (r : Rg) (k : ByteArray) : behR r k = inE (frmE r) true k := by
  unfold behR inE frmE
  cases r.hf <;> simp
theorem ahd_to (r : Rg) (k : ByteArray) : ahdR r k = inE (toE r) false k := by
  unfold ahdR inE toE
  cases r.ht <;> simp
theorem nar_in (a b : En) (up : Bool) (k : ByteArray) : inE (narE a b up) up k = (inE a up k && inE b up k) := by
  obtain ⟨ta, ha, oa⟩ := a
  obtain ⟨tb, hb, ob⟩ := b
  cases ha with
  | false => simp [narE, inE]
  | true =>
    cases hb with
    | false => simp [narE, inE]
    | true =>
      have key : ∀ {p q : ByteArray}, ltb p q = true → ltb q p = false := ltb_asymm
      unfold narE inE
      simp only [if_true, Bool.not_true, Bool.false_or]
      cases up with
      | true =>
        simp only [cond_true]
        rcases ltb_cases tb ta with h | rfl | h
        · simp only [h, Bool.true_or, if_true]
          rcases ltb_cases ta k with q | rfl | q
          · simp [q, ltb_trans h q]
          · simp [h, sameb_self, sameb_gt h, ltb_irrefl]
          · simp [key q, sameb_lt q]
        · simp only [ltb_irrefl, sameb_self, Bool.false_or, Bool.true_and]
          cases oa <;> simp only [if_true, if_false, Bool.false_eq_true, Bool.not_true, Bool.not_false, Bool.false_or, Bool.and_true, Bool.and_false, Bool.or_false] <;> generalize ltb tb k = p <;> generalize sameb k tb = q <;> revert ob p q <;> decide
        · simp only [key h, sameb_lt h, Bool.false_or, Bool.false_and, Bool.false_eq_true, if_false]
          rcases ltb_cases tb k with q | rfl | q
          · simp [q, ltb_trans h q]
          · simp [h, sameb_self, sameb_gt h, ltb_irrefl]
          · simp [key q, sameb_lt q]
      | false =>
        simp only [cond_false]
        rcases ltb_cases ta tb with h | rfl | h
        · simp only [h, Bool.true_or, if_true]
          rcases ltb_cases k ta with q | rfl | q
          · simp [q, ltb_trans q h]
          · simp [h, sameb_self, sameb_lt h, ltb_irrefl]
          · simp [key q, sameb_gt q]
        · simp only [ltb_irrefl, sameb_self, Bool.false_or, Bool.true_and]
          cases oa <;> simp only [if_true, if_false, Bool.false_eq_true, Bool.not_true, Bool.not_false, Bool.false_or, Bool.and_true, Bool.and_false, Bool.or_false] <;> generalize ltb k ta = p <;> generalize sameb k ta = q <;> revert ob p q <;> decide
        · simp only [key h, sameb_gt h, Bool.false_or, Bool.false_and, Bool.false_eq_true, if_false]
          rcases ltb_cases k tb with q | rfl | q
          · simp [q, ltb_trans q h]
          · simp [h, sameb_self, sameb_lt h, ltb_irrefl]
          · simp [key q, sameb_gt q]
theorem frm_join (a b : En) (ha : a.h = false → a = ⟨nil8, false, false⟩) : frmE (joinR a b) = a := by
  unfold frmE joinR
  cases h : a.h with
  | true => simp [← h]
  | false => simp [ha h]
theorem to_join (a b : En) (hb : b.h = false → b = ⟨nil8, false, false⟩) : toE (joinR a b) = b := by
  unfold toE joinR
  cases h : b.h with
  | true => simp [← h]
  | false => simp [hb h]
theorem frm_zero (r : Rg) : (frmE r).h = false → frmE r = ⟨nil8, false, false⟩ := by unfold frmE; cases r.hf <;> simp
theorem to_zero (r : Rg) : (toE r).h = false → toE r = ⟨nil8, false, false⟩ := by unfold toE; cases r.ht <;> simp
theorem nar_zero {a b : En} {up : Bool} (hb : b.h = false → b = ⟨nil8, false, false⟩) : (narE a b up).h = false → narE a b up = ⟨nil8, false, false⟩ := by
  unfold narE
  cases h1 : a.h with
  | false => simpa using hb
  | true =>
    cases h2 : b.h with
    | false => simp [h1]
    | true => simp only [if_true]; split <;> simp [h1, h2]
theorem has_meet (a b : Rg) (k : ByteArray) : hasR (meetR a b) k = (hasR a k && hasR b k) := by
  unfold hasR
  rw [beh_frm (meetR a b), ahd_to (meetR a b)]
  unfold meetR
  rw [frm_join _ _ (nar_zero (frm_zero b)), to_join _ _ (nar_zero (to_zero b)), nar_in, nar_in, ← beh_frm, ← beh_frm, ← ahd_to, ← ahd_to]
  cases behR a k <;> cases behR b k <;> cases ahdR a k <;> cases ahdR b k <;> rfl
theorem emp_has {r : Rg} {k : ByteArray} (h : empR r = true) : hasR r k = false := by
  obtain ⟨f, t, hf, ht, pf, po⟩ := r
  unfold empR at h
  simp only [Bool.and_eq_true, Bool.or_eq_true] at h
  obtain ⟨⟨h1, h2⟩, h3⟩ := h
  unfold hasR behR ahdR
  dsimp only at h1 h2 h3 ⊢
  subst h1 h2
  simp only [Bool.not_true, Bool.false_or]
  rcases h3 with h3 | ⟨h3, h4⟩
  · rcases ltb_cases f k with q | rfl | q
    · have := ltb_trans h3 q; simp [ltb_asymm this, sameb_gt this]
    · simp [ltb_asymm h3, sameb_gt h3]
    · simp [ltb_asymm q, sameb_lt q]
  · have e : f = t := by
      unfold sameb at h3
      simp only [Bool.and_eq_true, Bool.not_eq_true'] at h3
      exact ltb_total h3.1 h3.2
    subst e
    rcases ltb_cases f k with q | rfl | q
    · simp [ltb_asymm q, sameb_gt q]
    · rcases h4 with h4 | h4 <;> simp [ltb_irrefl, h4]
    · simp [ltb_asymm q, sameb_lt q]
theorem has_one (k : ByteArray) : hasR (oneR k) k = true := by simp [hasR, behR, ahdR, oneR, sameb_self]
theorem ltb_data (a b : ByteArray) : ltb a b = Op.bytesLess a.data.toList b.data.toList := by unfold ltb; rw [Lib.toList_data, Lib.toList_data]
theorem pre_le : ∀ (l o : List UInt8), Op.bytesLess (l ++ o) l = false
  | [], o => by cases o <;> rfl
  | c :: l, o => by simp [Op.bytesLess, pre_le l o]
theorem sameb_data (a b : ByteArray) : sameb a b = decide (a = b) := by
  by_cases h : a = b
  · subst h; simp [sameb_self]
  · rcases ltb_cases a b with q | q | q
    · simp [sameb_lt q, h]
    · exact absurd q h
    · simp [sameb_gt q, h]
theorem has_pfx (s k : ByteArray) : hasR (pfxR s) k = true ↔ s.data.toList <+: k.data.toList := by
  have hge : (behR (pfxR s) k = true) ↔ ltb k s = false := by
    have e1 : (pfxR s).hf = true ∧ (pfxR s).f = s ∧ (pfxR s).pf = false := by unfold pfxR; cases nxt s.data.toList <;> exact ⟨rfl, rfl, rfl⟩
    unfold behR
    rw [e1.1, e1.2.1, e1.2.2]
    rcases ltb_cases s k with q | rfl | q
    · simp [q, ltb_asymm q]
    · simp [sameb_self, ltb_irrefl]
    · simp [q, ltb_asymm q, sameb_lt q]
  constructor
  · intro h
    unfold hasR at h
    simp only [Bool.and_eq_true] at h
    have h1 := hge.1 h.1
    rw [ltb_data] at h1
    cases hn : nxt s.data.toList with
    | none => exact full_prefix _ _ ((nxt_none _).1 hn) h1
    | some t =>
      have h2 := h.2
      unfold ahdR pfxR at h2
      rw [hn] at h2
      simp only [Bool.not_true, Bool.false_or, Bool.and_false, Bool.or_false] at h2
      rw [ltb_data] at h2
      exact nxt_between hn h1 h2
  · rintro ⟨o, ho⟩
    unfold hasR
    simp only [Bool.and_eq_true]
    refine ⟨hge.2 (by rw [ltb_data, ← ho]; exact pre_le _ _), ?_⟩
    unfold ahdR pfxR
    cases hn : nxt s.data.toList with
    | none => rfl
    | some t =>
      simp only [Bool.not_true, Bool.false_or, Bool.and_false, Bool.or_false]
      rw [ltb_data, ← ho]
      exact nxt_above hn o
end Go.Proofs.YtagamkahfiackaaGreatDoor

namespace Go.Proofs.YtagamkahfiackaaGreatDoor
open Go.Lib

/-- A version: a commit, and a row, or that it is gone. -/
structure PV where
  cm : Int
  tx : ByteArray
  gn : Bool
def lastC (c : List PV) : Int := match c.getLast? with
  | none => 0
  | some v => v.cm
def withC (c : List PV) (v : PV) : List PV := if lastC c = v.cm then c.dropLast ++ [v] else c ++ [v]
def AscC (c : List PV) : Prop := c.Pairwise (fun x y => x.cm < y.cm) ∧ ∀ v ∈ c, 1 ≤ v.cm
def loC (c : List PV) (t : Int) : List PV := c.filter fun v => decide (v.cm ≤ t)
def upC (c : List PV) (t : Int) : Nat := (loC c t).length
def asC (c : List PV) (t : Int) : Option PV := (loC c t).getLast?
def rowO : Option PV → Option ByteArray
  | none => none
  | some v => if v.gn then none else some v.tx
def rowC (c : List PV) (t : Int) : Option ByteArray := rowO (asC c t)
def unC (c : List PV) (t : Int) : Nat := match asC c t with
  | none => 0
  | some v => if upC c t = c.length ∧ v.gn = true then upC c t else upC c t - 1
theorem last_nil : lastC [] = 0 := rfl
theorem last_snoc (c : List PV) (v : PV) : lastC (c ++ [v]) = v.cm := by simp [lastC]
theorem asc_nil : AscC [] := ⟨List.Pairwise.nil, fun _ h => by cases h⟩
theorem AscC.tail {v : PV} {c : List PV} (h : AscC (v :: c)) : AscC c := ⟨(List.pairwise_cons.1 h.1).2, fun u hu => h.2 u (by simp [hu])⟩
theorem AscC.sub {c d : List PV} (h : AscC c) (hs : List.Sublist d c) : AscC d := ⟨h.1.sublist hs, fun v hv => h.2 v (hs.subset hv)⟩
theorem AscC.le_last {c : List PV} (h : AscC c) {v : PV} (hv : v ∈ c) : v.cm ≤ lastC c := by
  rcases List.eq_nil_or_concat c with rfl | ⟨d, u, rfl⟩
  · cases hv
  · rw [List.concat_eq_append] at h hv ⊢
    rw [last_snoc]
    rcases List.mem_append.1 hv with hv | hv
    · exact Int.le_of_lt ((List.pairwise_append.1 h.1).2.2 v hv u (by simp))
    · rw [List.mem_singleton.1 hv]; exact Int.le_refl _
theorem AscC.dropLast_lt {c : List PV} (h : AscC c) {v : PV} (hv : v ∈ c.dropLast) : v.cm < lastC c := by
  rcases List.eq_nil_or_concat c with rfl | ⟨d, u, rfl⟩
  · cases hv
  · rw [List.concat_eq_append] at h hv ⊢
    rw [last_snoc]
    rw [List.dropLast_concat] at hv
    exact (List.pairwise_append.1 h.1).2.2 v hv u (by simp)
theorem AscC.with {c : List PV} (h : AscC c) {v : PV} (h1 : 1 ≤ v.cm) (hl : lastC c ≤ v.cm) : AscC (withC c v) := by
  unfold withC
  split
  · rename_i e
    refine ⟨List.pairwise_append.2 ⟨h.1.sublist (List.dropLast_sublist c), by simp, fun x hx y hy => ?_⟩, fun x hx => ?_⟩
    · rw [List.mem_singleton.1 hy, ← e]; exact h.dropLast_lt hx
    · rcases List.mem_append.1 hx with hx | hx
      · exact h.2 x ((List.dropLast_sublist c).subset hx)
      · rw [List.mem_singleton.1 hx]; exact h1
  · rename_i e
    refine ⟨List.pairwise_append.2 ⟨h.1, by simp, fun x hx y hy => ?_⟩, fun x hx => ?_⟩
    · rw [List.mem_singleton.1 hy]
      have := h.le_last hx
      omega
    · rcases List.mem_append.1 hx with hx | hx
      · exact h.2 x hx
      · rw [List.mem_singleton.1 hx]; exact h1
theorem with_ne (c : List PV) (v : PV) : withC c v ≠ [] := by unfold withC; split <;> simp
theorem with_len (c : List PV) (v : PV) : (withC c v).length ≤ c.length + 1 := by unfold withC; split <;> simp
theorem last_with (c : List PV) (v : PV) : lastC (withC c v) = v.cm := by unfold withC; split <;> rw [last_snoc]
/-- The versions up to a commit are a begin of the chain. -/
theorem lo_take : ∀ {c : List PV}, AscC c → ∀ t, loC c t = c.take (upC c t)
  | [], _, t => rfl
  | v :: c, h, t => by
    have ih := lo_take h.tail t
    by_cases q : v.cm ≤ t
    · have e : loC (v :: c) t = v :: loC c t := List.filter_cons_of_pos (by simpa using q)
      unfold upC at ih ⊢
      rw [e, List.length_cons, List.take_succ_cons, ← ih]
    · have e : loC (v :: c) t = [] := List.filter_eq_nil_iff.2 fun u hu => by
        rcases List.mem_cons.1 hu with rfl | hu
        · simpa using q
        · have := (List.pairwise_cons.1 h.1).1 u hu
          simp; omega
      unfold upC
      rw [e]; rfl
theorem up_le (c : List PV) (t : Int) : upC c t ≤ c.length := List.length_filter_le _ _
theorem up_at {c : List PV} (h : AscC c) (t : Int) {i : Nat} {v : PV} (hi : c[i]? = some v) : t < v.cm ↔ upC c t ≤ i := by
  have e := lo_take h t
  constructor
  · intro q
    rcases Nat.lt_or_ge i (upC c t) with hl | hl
    · have : v ∈ loC c t := by
        rw [e]; exact List.mem_of_getElem? (i := i) (by rw [List.getElem?_take, if_pos hl]; exact hi)
      have := (List.mem_filter.1 this).2
      simp at this; omega
    · exact hl
  · intro q
    refine Int.not_le.1 fun hv => ?_
    have hm : v ∈ c.take (upC c t) := by
      rw [← e]; exact List.mem_filter.2 ⟨List.mem_of_getElem? hi, by simpa using hv⟩
    obtain ⟨j, hj⟩ := List.getElem?_of_mem hm
    rw [List.getElem?_take] at hj
    split at hj
    · rename_i hjl
      obtain ⟨h1, e1⟩ := List.getElem?_eq_some_iff.1 hi
      obtain ⟨h2, e2⟩ := List.getElem?_eq_some_iff.1 hj
      have := List.pairwise_iff_getElem.1 h.1 j i h2 h1 (by omega)
      rw [e1, e2] at this
      omega
    · cases hj
theorem as_at {c : List PV} (h : AscC c) (t : Int) : asC c t = if upC c t = 0 then none else c[upC c t - 1]? := by
  unfold asC
  split
  · rename_i e
    rw [List.eq_nil_of_length_eq_zero e]; rfl
  · rename_i e
    have hl := up_le c t
    rw [lo_take h t, List.getLast?_eq_getElem?, List.length_take, Nat.min_eq_left hl, List.getElem?_take, if_pos (by omega)]
/-- The last of a list in order is the greatest. -/
theorem last_of_max {c : List PV} (h : c.Pairwise (fun x y => x.cm < y.cm)) {v : PV} (hv : v ∈ c) (hm : ∀ u ∈ c, u.cm ≤ v.cm) : c.getLast? = some v := by
  rcases List.eq_nil_or_concat c with rfl | ⟨d, u, rfl⟩
  · cases hv
  · rw [List.concat_eq_append] at h hv hm ⊢
    rw [List.getLast?_append, List.getLast?_singleton, Option.some_or]
    rcases List.mem_append.1 hv with hv | hv
    · have h1 := (List.pairwise_append.1 h).2.2 v hv u (by simp)
      have h2 := hm u (by simp)
      omega
    · rw [List.mem_singleton.1 hv]
theorem as_of_max {c : List PV} (h : AscC c) {t : Int} {v : PV} (hv : v ∈ c) (ht : v.cm ≤ t) (hm : ∀ u ∈ c, u.cm ≤ t → u.cm ≤ v.cm) : asC c t = some v :=
  last_of_max (h.1.sublist List.filter_sublist) (List.mem_filter.2 ⟨hv, by simpa using ht⟩) fun u hu => by
    have := List.mem_filter.1 hu
    exact hm u this.1 (by simpa using this.2)
theorem as_none {c : List PV} {t : Int} (hm : ∀ u ∈ c, ¬ u.cm ≤ t) : asC c t = none := by
  unfold asC
  rw [show loC c t = [] from List.filter_eq_nil_iff.2 fun u hu => by simpa using hm u hu]; rfl

/-! ### Keys with chains -/
abbrev Ct := PIt (List PV)
def chM (k : ByteArray) (m : List Ct) : List PV := (get k m).getD []
def putM (k : ByteArray) (v : PV) (m : List Ct) : List Ct := ins k (withC (chM k m) v) m
def nVer (m : List Ct) : Nat := (m.map fun x => x.2.length).sum
def selM (r : Rg) (m : List Ct) : List Ct := m.filter fun x => hasR r x.1
def rowsM (r : Rg) (t : Int) (m : List Ct) : List (ByteArray × ByteArray) := (selM r m).filterMap fun x => (rowC x.2 t).map fun y => (x.1, y)
def chgM (r : Rg) (t : Int) (m : List Ct) : Bool := (selM r m).any fun x => decide (t < lastC x.2)
def pr1 (t : Int) (k : ByteArray) (m : List Ct) : List Ct :=
  if unC (chM k m) t = (chM k m).length then del k m else if 0 < unC (chM k m) t then ins k ((chM k m).drop (unC (chM k m) t)) m else m
/-- A store that is sound: keys in order, chains in order, none of them empty. -/
structure OkM (m : List Ct) : Prop where
  srt : Srt m
  asc : ∀ x ∈ m, AscC x.2
  ne : ∀ x ∈ m, x.2 ≠ []
theorem mem_get {α : Type} {m : List (PIt α)} (hs : Srt m) {x : PIt α} (hx : x ∈ m) : get x.1 m = some x.2 := by
  obtain ⟨A, B, rfl⟩ := List.append_of_mem hx
  have hp := List.pairwise_append.1 hs
  obtain ⟨k, u⟩ := x
  exact get_at fun y hy => hp.2.2 y hy (k, u) (by simp)
theorem get_mem {α : Type} {m : List (PIt α)} {k : ByteArray} {v : α} (h : get k m = some v) : (k, v) ∈ m := by
  unfold get at h
  obtain ⟨x, hx, rfl⟩ := Option.map_eq_some_iff.1 h
  have h1 := List.find?_some hx
  have h2 := List.mem_of_find?_eq_some hx
  simp only [Bool.and_eq_true, Bool.not_eq_true'] at h1
  rw [← ltb_total h1.1 h1.2]
  exact h2
theorem mem_ins {α : Type} {m : List (PIt α)} {k : ByteArray} {v : α} {x : PIt α} : x ∈ ins k v m ↔ x = (k, v) ∨ (x ∈ m ∧ (ltb x.1 k = true ∨ ltb k x.1 = true)) := by
  unfold ins
  rw [List.mem_append, List.mem_cons, mem_lo, mem_hi]
  constructor
  · rintro (⟨h1, h2⟩ | h | ⟨h1, h2⟩)
    · exact .inr ⟨h1, .inl h2⟩
    · exact .inl h
    · exact .inr ⟨h1, .inr h2⟩
  · rintro (h | ⟨h1, h2 | h2⟩)
    · exact .inr (.inl h)
    · exact .inl ⟨h1, h2⟩
    · exact .inr (.inr ⟨h1, h2⟩)
theorem mem_del {α : Type} {m : List (PIt α)} {k : ByteArray} {x : PIt α} : x ∈ del k m ↔ (x ∈ m ∧ (ltb x.1 k = true ∨ ltb k x.1 = true)) := by
  unfold del
  rw [List.mem_append, mem_lo, mem_hi]
  constructor
  · rintro (⟨h1, h2⟩ | ⟨h1, h2⟩)
    · exact ⟨h1, .inl h2⟩
    · exact ⟨h1, .inr h2⟩
  · rintro ⟨h1, h2 | h2⟩
    · exact .inl ⟨h1, h2⟩
    · exact .inr ⟨h1, h2⟩
theorem OkM.ch {m : List Ct} (h : OkM m) (k : ByteArray) : AscC (chM k m) := by
  unfold chM
  cases e : get k m with
  | none => exact asc_nil
  | some c => exact h.asc _ (get_mem e)
theorem OkM.put {m : List Ct} (h : OkM m) {k : ByteArray} {v : PV} (h1 : 1 ≤ v.cm) (hl : lastC (chM k m) ≤ v.cm) : OkM (putM k v m) := by
  refine ⟨h.srt.ins k _, fun x hx => ?_, fun x hx => ?_⟩
  · rcases mem_ins.1 hx with rfl | ⟨hx, _⟩
    · exact (h.ch k).with h1 hl
    · exact h.asc x hx
  · rcases mem_ins.1 hx with rfl | ⟨hx, _⟩
    · exact with_ne _ _
    · exact h.ne x hx
theorem ok_nil : OkM [] := ⟨List.Pairwise.nil, fun _ h => (by cases h), fun _ h => (by cases h)⟩
/-- A map over the values. -/
def mapV {α β : Type} (f : α → β) (l : List (PIt α)) : List (PIt β) := l.map fun x => (x.1, f x.2)
theorem mapV_lo {α β : Type} (f : α → β) (k : ByteArray) (l : List (PIt α)) : lo k (mapV f l) = mapV f (lo k l) := by
  unfold lo mapV; rw [List.filter_map]; rfl
theorem mapV_hi {α β : Type} (f : α → β) (k : ByteArray) (l : List (PIt α)) : hi k (mapV f l) = mapV f (hi k l) := by
  unfold hi mapV; rw [List.filter_map]; rfl
theorem mapV_ins {α β : Type} (f : α → β) (k : ByteArray) (v : α) (l : List (PIt α)) : mapV f (ins k v l) = ins k (f v) (mapV f l) := by
  unfold ins
  rw [mapV_lo, mapV_hi]
  simp [mapV]
theorem mapV_del {α β : Type} (f : α → β) (k : ByteArray) (l : List (PIt α)) : mapV f (del k l) = del k (mapV f l) := by
  unfold del
  rw [mapV_lo, mapV_hi]
  simp [mapV]
theorem mapV_get {α β : Type} (f : α → β) (k : ByteArray) (l : List (PIt α)) : get k (mapV f l) = (get k l).map f := by
  unfold get mapV
  rw [List.find?_map, Option.map_map, Option.map_map]
  rfl
theorem mapV_srt {α β : Type} (f : α → β) {l : List (PIt α)} (h : Srt l) : Srt (mapV f l) := by
  unfold Srt mapV at *
  rw [List.pairwise_map]
  exact h
/-! ### How many versions -/
theorem nVer_append (a b : List Ct) : nVer (a ++ b) = nVer a + nVer b := by simp [nVer]
theorem nVer_cons (x : Ct) (b : List Ct) : nVer (x :: b) = x.2.length + nVer b := by simp [nVer]
theorem nVer_nil : nVer [] = 0 := rfl
theorem ins_cut {m : List Ct} (h : Srt m) (k : ByteArray) : nVer m = nVer (lo k m) + (chM k m).length + nVer (hi k m) := by
  unfold chM
  rcases h.about k with ⟨e, g⟩ | ⟨u, e, g⟩
  · rw [g]
    conv => lhs; rw [e]
    rw [nVer_append]; simp
  · rw [g]
    conv => lhs; rw [e]
    rw [nVer_append, nVer_cons]; simp; omega
theorem nVer_ins {m : List Ct} (h : Srt m) (k : ByteArray) (c : List PV) : nVer (ins k c m) + (chM k m).length = nVer m + c.length := by
  rw [ins_cut h k]
  unfold ins
  rw [nVer_append, nVer_cons]; simp only []; omega
theorem nVer_del {m : List Ct} (h : Srt m) (k : ByteArray) : nVer (del k m) + (chM k m).length = nVer m := by
  rw [ins_cut h k]
  unfold del
  rw [nVer_append]; omega
theorem nVer_put {m : List Ct} (h : Srt m) (k : ByteArray) (v : PV) : nVer (putM k v m) ≤ nVer m + 1 := by
  have := nVer_ins h k (withC (chM k m) v)
  have h2 := with_len (chM k m) v
  unfold putM
  omega
theorem ch_le {m : List Ct} (h : Srt m) (k : ByteArray) : (chM k m).length ≤ nVer m := by
  rw [ins_cut h k]; omega
theorem OkM.len : ∀ {m : List Ct}, OkM m → m.length ≤ nVer m
  | [], _ => Nat.le_refl _
  | x :: m, h => by
    have := OkM.len (m := m) ⟨(List.pairwise_cons.1 h.srt).2, fun y hy => h.asc y (by simp [hy]), fun y hy => h.ne y (by simp [hy])⟩
    have h1 : 0 < x.2.length := List.length_pos_iff.2 (h.ne x (by simp))
    rw [nVer_cons, List.length_cons]; omega
theorem ins_congr {α β : Type} {f f' : α → β} {k : ByteArray} {z : β} {l : List (PIt α)} (h : ∀ x ∈ l, (ltb x.1 k = true ∨ ltb k x.1 = true) → f' x.2 = f x.2) : ins k z (mapV f' l) = ins k z (mapV f l) := by
  unfold ins
  rw [mapV_lo, mapV_hi, mapV_lo, mapV_hi]
  have e1 : mapV f' (lo k l) = mapV f (lo k l) := List.map_congr_left fun x hx => by rw [h x (mem_lo.1 hx).1 (.inl (mem_lo.1 hx).2)]
  have e2 : mapV f' (hi k l) = mapV f (hi k l) := List.map_congr_left fun x hx => by rw [h x (mem_hi.1 hx).1 (.inr (mem_hi.1 hx).2)]
  rw [e1, e2]
end Go.Proofs.YtagamkahfiackaaGreatDoor

namespace Go.Proofs.YtagamkahfiackaaGreatDoor
open Go.RowKit Go.Sort

theorem size_list (s : ByteArray) : s.size = s.data.toList.length := Lib.size_eq s
theorem ba_ext {s t : ByteArray} (h : s.data.toList = t.data.toList) : s = t := toList_inj (by rw [Lib.toList_data, Lib.toList_data]; exact h)
theorem ba_append (a b : ByteArray) : (a ++ b).data.toList = a.data.toList ++ b.data.toList := by simp
def bs (xs : List Nat) : ByteArray := ⟨(xs.map fun n => UInt8.ofNat n).toArray⟩
/-- Bytes as numbers. -/
def ns (l : List UInt8) : List Nat := l.map UInt8.toNat
theorem bs_ns (l : List UInt8) : bs (ns l) = ⟨l.toArray⟩ := by
  unfold bs ns; rw [List.map_map]
  have : (fun n => UInt8.ofNat n) ∘ UInt8.toNat = id := by funext x; simp
  rw [this, List.map_id]
theorem ns_length (l : List UInt8) : (ns l).length = l.length := by simp [ns]
theorem ns_append (a b : List UInt8) : ns a ++ ns b = ns (a ++ b) := by simp [ns]
/-- Bytes as values. -/
def vals (xs : List Nat) : List Value := xs.map fun (x : Nat) => .int .u8 (x : Int)
theorem vals_len (xs : List Nat) : (vals xs).length = xs.length := by simp [vals]
theorem vals_append (xs ys : List Nat) : vals xs ++ vals ys = vals (xs ++ ys) := by simp [vals]
theorem vals_one (xs : List Nat) : ∀ u ∈ vals xs, u.oneCell' = true := by
  intro u hu
  obtain ⟨x, _, rfl⟩ := List.mem_map.1 hu
  rfl
theorem vals_get (xs : List Nat) (i : Nat) (h : i < xs.length) : (vals xs)[i]? = some (.int .u8 (xs.getD i 0 : Nat)) := by
  simp [vals, List.getElem?_map, List.getElem?_eq_getElem h, List.getD_eq_getElem?_getD]
/-- The cells behind a slice of bytes. -/
def BytesIn (w : World) (a : Option Addr) (xs : List Nat) : Prop :=
  ∀ i, i < xs.length → ∃ b o, a = some ⟨b, o, none⟩ ∧ w.cell? ⟨b, o + i, none⟩ = some (.int .u8 (xs.getD i 0 : Nat))
theorem BytesIn.on {w w' : World} {a : Option Addr} {xs : List Nat} (h : BytesIn w a xs) (hb : Below w.heap.size w w') : BytesIn w' a xs := by
  intro i hi
  obtain ⟨b, o, e, h1⟩ := h i hi
  exact ⟨b, o, e, (hb.cell (block_lt_of_cell h1)).trans h1⟩
theorem bytesIn_nil (w : World) (a : Option Addr) : BytesIn w a [] := fun i hi => by simp at hi
theorem BytesIn.news {w : World} {ad : Addr} {xs : List Nat} (h : BytesIn w (some ad) xs) : ∀ j u, (vals xs)[j]? = some u → w.cell? (ad.add j) = some u := by
  intro j u hj
  have hl : j < xs.length := by
    rcases Nat.lt_or_ge j xs.length with h | h
    · exact h
    · rw [List.getElem?_eq_none (by rw [vals_len]; exact h)] at hj; cases hj
  obtain ⟨b, o, e, h1⟩ := h j hl
  cases e
  rw [vals_get xs j hl] at hj
  cases hj
  rw [Addr.add_lit]
  exact h1
/-- A row of bytes that the call has made. -/
def OwnB (w : World) (base : Nat) (v : Value) (xs : List Nat) : Prop := w.ownsRow base 5 1 v xs.length (vals xs)
theorem OwnB.bytes {w : World} {base : Nat} {v : Value} {xs : List Nat} (h : OwnB w base v xs) : ∃ a c, v = .slice a xs.length c ∧ BytesIn w a xs ∧ (a = none → c = 0) := by
  rcases h.2 with ⟨rfl, e⟩ | ⟨g, cap, cur, rfl, _, _, _, _, _, _⟩
  · have : xs = [] := List.eq_nil_of_length_eq_zero e
    subst this
    exact ⟨none, 0, rfl, bytesIn_nil _ _, fun _ => rfl⟩
  · refine ⟨_, _, rfl, fun i hi => ⟨g, 0, rfl, ?_⟩, fun hh => by cases hh⟩
    have := World.ownsRow.cellAt h i (by omega)
    rw [Nat.zero_add, this, vals_get xs i hi]
theorem OwnB.cells {w : World} {base g n c : Nat} {xs : List Nat} (h : OwnB w base (.slice (some ⟨g, 0, none⟩) n c) xs) : n = xs.length ∧ BytesIn w (some ⟨g, 0, none⟩) xs ∧ base ≤ g ∧ g < w.heap.size := by
  obtain ⟨a, c', e, hb, _⟩ := h.bytes
  simp only [Value.slice.injEq] at e
  obtain ⟨rfl, rfl, rfl⟩ := e
  obtain ⟨h1, h2⟩ := World.ownsRow.lt h g rfl
  exact ⟨rfl, hb, h1, h2⟩
theorem OwnB.on {w w' : World} {base : Nat} {v : Value} {xs : List Nat} (h : OwnB w base v xs) (hb : Below w.heap.size w w') : OwnB w' base v xs := by
  refine ⟨h.1, ?_⟩
  rcases h.2 with h1 | ⟨g, cap, cur, e, h1, h2, h3, h4, h5, h6⟩
  · exact .inl h1
  · have hlt : g < w.heap.size := by
      rcases Nat.lt_or_ge g w.heap.size with hl | hl
      · exact hl
      · rw [Array.getElem?_eq_none hl] at h2; cases h2
    exact .inr ⟨g, cap, cur, e, h1, (hb.block g hlt).trans h2, h3, h4, h5, h6⟩
theorem OwnB.lower {w : World} {base base' : Nat} {v : Value} {xs : List Nat} (h : OwnB w base v xs) (hb : base' ≤ base) : OwnB w base' v xs := by
  refine ⟨h.1, ?_⟩
  rcases h.2 with h1 | ⟨g, cap, cur, e, h1, h2, h3, h4, h5, h6⟩
  · exact .inl h1
  · exact .inr ⟨g, cap, cur, e, Nat.le_trans hb h1, h2, h3, h4, h5, h6⟩

theorem infoB : (Tryz.prog.info? 5).map (fun i => (i.zero, i.size, i.bytes)) = some (some (.int .u8 0), 1, 1) := by kernel_rfl

/-- string(b). -/
theorem conv_ (w : World) (a : Option Addr) (n c : Nat) (xs : List Nat) (hn : n = xs.length) (h : BytesIn w a xs) : (convert 33 9 (.slice a n c)).run Tryz.prog w = .ok (.string (bs xs)) w := by
  have e : strOfNums (xs.map fun (x : Nat) => (x : Int)) = bs xs := by simp [strOfNums, bs, Function.comp_def]
  subst hn
  cases a with
  | none =>
    have hx : xs = [] := by
      cases xs with
      | nil => rfl
      | cons y ys => obtain ⟨_, _, hh, _⟩ := h 0 (by simp); cases hh
    subst hx
    rw [run_convert_bytes_nil w 33 5 Tryz.underlying33 Tryz.underlying5 _ _ 9 Tryz.underlying9]
    rfl
  | some ad =>
    by_cases hx : xs = []
    · subst hx
      rw [run_convert_bytes_string w 33 9 5 _ _ _ Tryz.underlying33 Tryz.underlying5 Tryz.underlying9]
      rw [run_bytesToString w ad _ c [] (by rfl)]
      rfl
    · obtain ⟨b, o, hh, _⟩ := h 0 (by cases xs with | nil => exact absurd rfl hx | cons y ys => simp)
      cases hh
      rw [run_convert_bytes_arg w 33 5 Tryz.underlying33 Tryz.underlying5 b o _ c (xs.map fun (x : Nat) => (x : Int)) (by simp) (fun i hi => by
        obtain ⟨b', o', hh, h1⟩ := h i hi
        cases hh
        rw [h1]
        simp [List.getD_eq_getElem?_getD, List.getElem?_map, List.getElem?_eq_getElem hi]) 9 Tryz.underlying9, e]

theorem bytes_none {w : World} {xs : List Nat} (h : BytesIn w none xs) : xs = [] := by
  cases xs with
  | nil => rfl
  | cons y ys => obtain ⟨_, _, hh, _⟩ := h 0 (by simp); cases hh
theorem ownB_join {w : World} {base n m : Nat} {v : Value} {xs ys : List Nat} (hn : xs.length = n) (hm : ys.length = m) (h : w.ownsRow base 5 1 v (n + m) (vals xs ++ vals ys)) : OwnB w base v (xs ++ ys) := by
  subst hn hm
  unfold OwnB
  rw [← vals_append, List.length_append]
  exact h
theorem ownB_nil (w : World) (base : Nat) : OwnB w base (.slice none 0 0) [] := World.ownsRow_nil w base 5 1
theorem below_grow {N : Nat} {w0 w w' : World} {v : Value} {es : List Nat} (hN : N ≤ w0.heap.size) (hb : Below N w0 w) (hown : OwnB w N v es) (hg : w.grownBy w' v.ownBlock) : Below N w0 w' :=
  hb.grown hg (Nat.le_trans hN hb.size) (fun k hk => (World.ownsRow.lt hown k hk).1)
theorem below_stepN {N : Nat} {W w w' : World} (hN : N ≤ W.heap.size) (h : Below N W w) (hb : Below w.heap.size w w') : Below N W w' := h.trans (hb.mono (Nat.le_trans hN h.size))
/-- append(row, bytes...), at the operation. -/
theorem wp_append_bytes (w : World) {o : Oper} {act : Act} {K : Act → World → Prop} {Q : Exit → Act → World → Prop} (s x : Operand)
    (ho : o.op = .call { callee := .builtin .append, args := #[s, x], argTypes := #[33, 33] }) (base : Nat) (v : Value) (es ys : List Nat) (hs : act.eval s = v) (hown : OwnB w base v es)
    (a : Option Addr) (m c' : Nat) (hx : act.eval x = .slice a m c') (hm : ys.length = m) (hnil : a = none → c' = 0) (hin : BytesIn w a ys) (hbytes : es.length + ys.length ≤ 140737488355328) (hbase : base ≤ w.heap.size)
    (hK : ∀ v' w', OwnB w' base v' (es ++ ys) → w.grownBy w' v.ownBlock → K (act.put o.dst v') w') : o.wp Tryz.prog act w K Q := by
  obtain ⟨i0, hi, hz0, hz1, hz2⟩ := info_parts infoB
  subst hm
  cases a with
  | none =>
    obtain rfl := bytes_none hin
    obtain rfl := hnil rfl
    have hrun := run_append_owned_none (P := Tryz.prog) w base 33 o.type 5 i0 1 Tryz.underlying33 hi _ _ _ hown
    unfold Oper.wp
    simp only [List.length_nil] at hx
    simp [execOp, ho, resolve, invoke, builtin, hs, hx, hrun, Result.andThen]
    have := hK v w (by rw [List.append_nil]; exact hown) ⟨rfl, rfl, rfl, Nat.le_refl _, fun _ _ _ => rfl⟩
    exact this
  | some ad =>
    obtain ⟨v', w', hr, h2, h3, _⟩ := run_append_own_at (P := Tryz.prog) w base 33 o.type 5 i0 (.int .u8 0) 1 1 Tryz.underlying33 hi hz0 hz1 hz2 rfl (by decide) v es.length (vals es) hown ad ys.length c' (vals ys) (by rw [vals_len]; omega) hin.news (vals_one ys) (by unfold maxLen; omega) (by omega) hbase
    unfold Oper.wp execOp
    simp only [ho, resolve, invoke, builtin, Sem.run_bind, Sem.run_pure, Result.andThen_ok, List.map_toArray, List.map_cons, List.map_nil, hs, hx, hr]
    exact hK v' w' (ownB_join rfl rfl h2) h3
/-- The same at a plain region's list. -/
theorem wpList_append_bytes (w : World) {ops : Array Oper} {rest : List Oper} {o : Oper} {act : Act} {Q : Exit → Act → World → Prop} (hgd : o.guard = none) (s x : Operand)
    (ho : o.op = .call { callee := .builtin .append, args := #[s, x], argTypes := #[33, 33] }) (base : Nat) (v : Value) (es ys : List Nat) (hs : act.eval s = v) (hown : OwnB w base v es)
    (a : Option Addr) (m c' : Nat) (hx : act.eval x = .slice a m c') (hm : ys.length = m) (hnil : a = none → c' = 0) (hin : BytesIn w a ys) (hbytes : es.length + ys.length ≤ 140737488355328) (hbase : base ≤ w.heap.size)
    (hK : ∀ v' w', OwnB w' base v' (es ++ ys) → w.grownBy w' v.ownBlock → wpList Tryz.prog ops Q rest (act.put o.dst v') w') : wpList Tryz.prog ops Q (o :: rest) act w :=
  wpList_plain hgd fun _ hK' => wp_append_bytes w s x ho base v es ys hs hown a m c' hx hm hnil hin hbytes hbase fun v' w' h1 h2 => hK' _ _ (hK v' w' h1 h2)
/-- Bytes that may be appended to: a row of one's own, or one that is full. -/
def ApB (w : World) (base : Nat) (v : Value) (xs : List Nat) : Prop :=
  OwnB w base v xs ∨ ∃ g, v = .slice (some ⟨g, 0, none⟩) xs.length xs.length ∧ base ≤ g ∧ BytesIn w (some ⟨g, 0, none⟩) xs ∧ 0 < xs.length
theorem ApB.bytes {w : World} {base : Nat} {v : Value} {xs : List Nat} (h : ApB w base v xs) : ∃ a c, v = .slice a xs.length c ∧ BytesIn w a xs := by
  rcases h with h | ⟨g, rfl, _, h2, _⟩
  · obtain ⟨a, c, e, h1, _⟩ := h.bytes
    exact ⟨a, c, e, h1⟩
  · exact ⟨_, _, rfl, h2⟩
theorem one_in {w : World} {B c : Nat} (h : w.cell? ⟨B, 0, none⟩ = some (.int .u8 (c : Int))) : BytesIn w (some ⟨B, 0, none⟩) [c] := by
  intro i hi
  simp at hi
  subst hi
  exact ⟨B, 0, rfl, h⟩
theorem ApB.on {w w' : World} {base : Nat} {v : Value} {xs : List Nat} (h : ApB w base v xs) (hb : Below w.heap.size w w') : ApB w' base v xs := by
  rcases h with h | ⟨g, e, h1, h2, h3⟩
  · exact .inl (h.on hb)
  · exact .inr ⟨g, e, h1, h2.on hb, h3⟩
/-- append(row, byte). -/
theorem wpList_append_one (N : Nat) (w w0 : World) {ops : Array Oper} {rest : List Oper} {o : Oper} {act : Act} {Q : Exit → Act → World → Prop} (hgd : o.guard = none) (s x : Operand)
    (ho : o.op = .call { callee := .builtin .append, args := #[s, x], argTypes := #[33, 33] }) (v : Value) (es : List Nat) (hs : act.eval s = v) (hap : ApB w N v es)
    (B c : Nat) (hx : act.eval x = .slice (some ⟨B, 0, none⟩) 1 1) (hc : w.cell? ⟨B, 0, none⟩ = some (.int .u8 (c : Int))) (hlen : es.length + 1 ≤ 140737488355328) (hN : N ≤ w0.heap.size) (hb : Below N w0 w)
    (hK : ∀ v' w', OwnB w' N v' (es ++ [c]) → Below N w0 w' → wpList Tryz.prog ops Q rest (act.put o.dst v') w') : wpList Tryz.prog ops Q (o :: rest) act w := by
  rcases hap with hown | ⟨g, rfl, hg, hin, hpos⟩
  · exact wpList_append_bytes w hgd s x ho N v es [c] hs hown (some ⟨B, 0, none⟩) 1 1 hx rfl (fun h => by cases h) (one_in hc) hlen (Nat.le_trans hN hb.size) fun v' w' h1 h2 => hK v' w' h1 (below_grow hN hb hown h2)
  · obtain ⟨i0, hi, hz0, hz1, hz2⟩ := info_parts infoB
    refine wpList_plain hgd fun _ hK' => ?_
    have hge := grownCap_ge w (es.length + 1) es.length 5
    have hcm : grownCap w (es.length + 1) es.length 5 ≤ maxLen := grownCap_le_maxLen w _ _ _ (by unfold maxLen; omega)
    have hr := run_append_grow (P := Tryz.prog) w 33 o.type 5 i0 (.int .u8 0) Tryz.underlying33 hi hz0 ⟨g, 0, none⟩ es.length es.length (vals es) (by rw [vals_len, hz1]; omega) hin.news ⟨B, 0, none⟩ 1 1 (vals [c]) (by rw [hz1]; rfl) (one_in hc).news (by omega) (by omega) (by rw [hz2]; exact growslice_fits (by omega) (by omega))
    unfold Oper.wp execOp
    simp only [ho, resolve, invoke, builtin, Sem.run_bind, Sem.run_pure, Result.andThen_ok, List.map_toArray, List.map_cons, List.map_nil, hs, hx, hr]
    refine hK' _ _ (hK _ _ ?_ ?_)
    · refine ownB_join rfl rfl ⟨by rw [List.length_append, vals_len, vals_len]; simp, .inr ⟨w.heap.size, _, _, rfl, Nat.le_trans hN hb.size, heap_alloc_new w.drew _, hge, hcm, ?_, ?_⟩⟩
      · simp only [Array.size_append, List.size_toArray, size_zeroCells, vals_len]
        simp [Value.cells]; omega
      · have e : (es.length + [c].length) * 1 = (vals es ++ vals [c]).length := by rw [List.length_append, vals_len, vals_len]; simp
        rw [Array.toList_append, Array.toList_append, e]
        exact List.take_left
    · exact (hb.drew).alloc (Nat.le_trans hN hb.size) _
end Go.Proofs.YtagamkahfiackaaGreatDoor

namespace Go.Proofs.YtagamkahfiackaaGreatDoor
open Go.RowKit Go.Sort

/-- A text's bytes as numbers. -/
def bsN (s : ByteArray) : List Nat := ns s.data.toList
theorem bs_bsN (s : ByteArray) : bs (bsN s) = s := by unfold bsN; rw [bs_ns]
theorem bsN_len (s : ByteArray) : (bsN s).length = s.size := by unfold bsN; rw [ns_length, size_list]
/-- A row in memory. -/
structure RowAt (w : World) (r : Vl) (s : ByteArray) : Prop where
  own : OwnB w 0 (.slice r.a r.n r.c) (bsN s)
  le : s.size ≤ 140737488355328
theorem RowAt.keep {w w' : World} {r : Vl} {s : ByteArray} (h : RowAt w r s) (hk : ∀ g, r.a = some ⟨g, 0, none⟩ → w'.heap[g]? = w.heap[g]?) : RowAt w' r s :=
  ⟨row_keep h.own fun g hg => by
    obtain ⟨a, c, e, _, h2, _⟩ := row_shape h.own
    simp only [Value.slice.injEq] at e
    cases ha : r.a with
    | none => rw [ha] at hg; cases hg
    | some ad =>
      obtain ⟨g', e'⟩ := h2 ad (by rw [← e.1, ha])
      rw [ha, e'] at hg
      simp only [Value.ownBlock, Option.some.injEq] at hg
      subst hg
      exact hk g' (by rw [ha, e']), h.le⟩
theorem RowAt.on {w w' : World} {r : Vl} {s : ByteArray} (h : RowAt w r s) (hb : Below w.heap.size w w') : RowAt w' r s := ⟨row_on h.own hb, h.le⟩
theorem RowAt.blk {w : World} {r : Vl} {s : ByteArray} (h : RowAt w r s) {g : Nat} (hg : r.a = some ⟨g, 0, none⟩) : ∃ cur, w.heap[g]? = some (.cells cur 5 (0, 0)) := row_block h.own (by rw [hg]; rfl)
theorem RowAt.bytes {w : World} {r : Vl} {s : ByteArray} (h : RowAt w r s) : r.n = (bsN s).length ∧ BytesIn w r.a (bsN s) ∧ (r.a = none → r.c = 0) := by
  obtain ⟨a, c, e, h1, h2⟩ := h.own.bytes
  simp only [Value.slice.injEq] at e
  obtain ⟨rfl, e2, rfl⟩ := e
  exact ⟨e2, h1, h2⟩
theorem rowAt_nil (w : World) : RowAt w vz ⟨#[]⟩ := ⟨ownB_nil w 0, Nat.zero_le _⟩
/-- What Clone leaves. -/
def Made (w : World) (s : ByteArray) (e : Ending) (w' : World) : Prop := ∃ r : Vl, e = .returned (.slice r.a r.n r.c) ∧ RowAt w' r s ∧ (∀ g, r.a = some ⟨g, 0, none⟩ → w.heap.size ≤ g) ∧ Below w.heap.size w w'
theorem own_empty (w : World) : OwnB (w.alloc (.cells #[] 5)) w.heap.size (.slice (some ⟨w.heap.size, 0, none⟩) 0 0) [] := World.ownsRow_lit w #[] 0 (Nat.le_refl _) (by decide) rfl
theorem made_of {w w' : World} {s : ByteArray} {v : Value} (ho : OwnB w' w.heap.size v (bsN s)) (hs : s.size ≤ 140737488355328) (hb : Below w.heap.size w w') : Made w s (.returned v) w' := by
  obtain ⟨a, c, e, _, h2, _⟩ := row_shape ho
  subst e
  refine ⟨⟨a, _, c⟩, rfl, ⟨ho.lower (Nat.zero_le _), hs⟩, fun g hg => ?_, hb⟩
  have hg' : a = some ⟨g, 0, none⟩ := hg
  subst hg'
  exact (World.ownsRow.lt ho g rfl).1
set_option maxRecDepth 100000 in
set_option maxHeartbeats 1000000 in
theorem clone_ {w : World} {a : Option Addr} {n c : Nat} {s : ByteArray} (hn : n = (bsN s).length) (h : BytesIn w a (bsN s)) (hc : a = none → c = 0) (hlim : s.size ≤ 140737488355328) :
    Calls Tryz.prog 25 #[.slice a n c] w (Made w s) := by
  have HB := Lib.hid h
  have HC := Lib.hid hc
  have HL := Lib.hid hn
  have HS := Lib.hid hlim
  have hlim' : n ≤ 140737488355328 := by rw [hn, bsN_len]; exact hlim
  clear h hc hn hlim
  have q : ∀ (w : World) (a : Option Addr) (n c n' c' : Nat), (binOp .eql 33 (.slice a n c) (.slice none n' c')).run Tryz.prog w = .ok (.bool a.isNone) w := fun w a n c n' c' => Lib.run_eql_slice_nil w _ _ a n c n' c' Tryz.underlying33
  cases a with
  | none =>
    have hx := bytes_none HB.out
    have hc0 := HC.out rfl
    subst hc0
    have hn0 : n = 0 := by rw [HL.out, hx]; rfl
    subst hn0
    have HZ : Hid (Made w s (.returned (.slice none 0 0)) w) := made_of (by rw [hx]; exact ownB_nil _ _) HS.out (Below.refl _ _)
    clear hx HB HC HL
    go_enter Tryz.func25, Tryz.ntmps25
    go_wp2_with fail
    go_ret
    exact HZ.out
  | some ad =>
    go_enter Tryz.func25, Tryz.ntmps25
    go_wp2_with (first
      | (at_builtin; refine wpList_append_bytes _ rfl _ _ rfl w.heap.size _ [] (bsN s) rfl (own_empty w) (some ad) n c rfl HL.out.symm HC.out (HB.out.on ((Below.refl _ _).alloc (Nat.le_refl _) _)) (by rw [← HL.out]; simpa using hlim') (by simp) ?_
         intro v2 w2 hown hgrow
         have HO := Lib.hid hown
         have Hb := Lib.hid (below_grow (Nat.le_refl _) ((Below.refl _ _).alloc (Nat.le_refl _) _) (own_empty w) hgrow)
         clear hown hgrow)
      | fail)
    go_ret
    exact made_of HO.out HS.out Hb.out

/-! ### Chains -/
structure MV where
  v : PV
  r : Vl
def pvs (L : List MV) : List PV := L.map (·.v)
theorem pvs_len (L : List MV) : (pvs L).length = L.length := by simp [pvs]
def vCells (x : MV) : List Value := [.int .i64 x.v.cm, .slice x.r.a x.r.n x.r.c, .bool x.v.gn]
def cV (L : List MV) : List Value := L.flatMap vCells
theorem cV_nil : cV [] = [] := rfl
theorem cV_cons (x : MV) (L : List MV) : cV (x :: L) = .int .i64 x.v.cm :: .slice x.r.a x.r.n x.r.c :: .bool x.v.gn :: cV L := rfl
theorem cV_append (a b : List MV) : cV (a ++ b) = cV a ++ cV b := by simp [cV]
theorem cV_len : ∀ L : List MV, (cV L).length = L.length * 3
  | [] => rfl
  | x :: L => by rw [cV_cons, List.length_cons, List.length_cons, List.length_cons, cV_len L, List.length_cons]; omega
theorem cV_one (L : List MV) : ∀ u ∈ cV L, u.oneCell' = true := by
  intro u hu
  obtain ⟨x, _, hx⟩ := List.mem_flatMap.1 hu
  simp only [vCells, List.mem_cons, List.not_mem_nil, or_false] at hx
  rcases hx with rfl | rfl | rfl <;> rfl
theorem cV_take : ∀ (L : List MV) (i : Nat), (cV L).take (i * 3) = cV (L.take i)
  | [], i => by simp [cV]
  | x :: L, 0 => by simp [cV]
  | x :: L, i + 1 => by rw [cV_cons, show (i + 1) * 3 = i * 3 + 1 + 1 + 1 by omega, List.take_succ_cons, List.take_succ_cons, List.take_succ_cons, cV_take L i, List.take_succ_cons, cV_cons]
theorem cV_drop : ∀ (L : List MV) (i : Nat), (cV L).drop (i * 3) = cV (L.drop i)
  | [], i => by simp [cV]
  | x :: L, 0 => by simp [cV]
  | x :: L, i + 1 => by rw [cV_cons, show (i + 1) * 3 = i * 3 + 1 + 1 + 1 by omega, List.drop_succ_cons, List.drop_succ_cons, List.drop_succ_cons, cV_drop L i, List.drop_succ_cons]
theorem cV_get : ∀ (L : List MV) (i : Nat) (x : MV), L[i]? = some x → (cV L)[i * 3]? = some (.int .i64 x.v.cm) ∧ (cV L)[i * 3 + 1]? = some (.slice x.r.a x.r.n x.r.c) ∧ (cV L)[i * 3 + 2]? = some (.bool x.v.gn)
  | [], i, x, h => by simp at h
  | y :: L, 0, x, h => by simp at h; subst h; exact ⟨rfl, rfl, rfl⟩
  | y :: L, i + 1, x, h => by
    have := cV_get L i x (by simpa using h)
    rw [cV_cons, show (i + 1) * 3 = i * 3 + 1 + 1 + 1 by omega]
    simpa using this
def RowV (w : World) (v : Value) (L : List MV) : Prop := w.ownsRow 0 90 3 v L.length (cV L)
/-- Versions behind a slice. -/
def VerIn (w : World) (a : Option Addr) (L : List MV) : Prop := ∀ i x, L[i]? = some x → ∃ g, a = some ⟨g, 0, none⟩ ∧ g < w.heap.size ∧ w.cell? ⟨g, i * 3, none⟩ = some (.int .i64 x.v.cm) ∧ w.cell? ⟨g, i * 3 + 1, none⟩ = some (.slice x.r.a x.r.n x.r.c) ∧ w.cell? ⟨g, i * 3 + 2, none⟩ = some (.bool x.v.gn)
theorem VerIn.on {w w' : World} {a : Option Addr} {L : List MV} (h : VerIn w a L) (hb : Below w.heap.size w w') : VerIn w' a L := fun i x hi => by
  obtain ⟨g, e, h1, h2, h3, h4⟩ := h i x hi
  exact ⟨g, e, Nat.lt_of_lt_of_le h1 hb.size, (hb.cell (p := ⟨g, i * 3, none⟩) h1).trans h2, (hb.cell (p := ⟨g, i * 3 + 1, none⟩) h1).trans h3, (hb.cell (p := ⟨g, i * 3 + 2, none⟩) h1).trans h4⟩
theorem RowV.shape {w : World} {v : Vl} {L : List MV} (h : RowV w (.slice v.a v.n v.c) L) : v.n = L.length ∧ VerIn w v.a L ∧ v.c ≤ 9223372036854775807 := by
  obtain ⟨a, c, e, _, _, _, hcm⟩ := row_shape h
  simp only [Value.slice.injEq] at e
  obtain ⟨e1, e2, e3⟩ := e
  refine ⟨e2, fun i x hi => ?_, by rw [e3]; unfold maxLen at hcm; omega⟩
  have hl : i < L.length := (List.getElem?_eq_some_iff.1 hi).1
  obtain ⟨g, c', cur, e, hg, _, _, _, hx⟩ := row_open h (by omega)
  simp only [Value.slice.injEq] at e
  obtain ⟨c1, c2, c3⟩ := cV_get L i x hi
  have get : ∀ j u, (cV L)[j]? = some u → w.cell? ⟨g, j, none⟩ = some u := fun j u hj => by
    refine cell_of hg ?_
    rw [← hx, List.getElem?_take] at hj
    split at hj
    · simpa using hj
    · cases hj
  exact ⟨g, e.1, blk_lt hg, get _ _ c1, get _ _ c2, get _ _ c3⟩
theorem infoVer : (Tryz.prog.info? 90).map (fun i => (i.zero, i.size, i.bytes)) = some (some (.agg #[.int .i64 0, .slice none 0 0, .bool false]), 3, 40) := by kernel_rfl
end Go.Proofs.YtagamkahfiackaaGreatDoor

namespace Go.Proofs.YtagamkahfiackaaGreatDoor
open Go.RowKit Go.Sort

theorem snoc_cases {α : Type} (L : List α) : L = [] ∨ ∃ D x, L = D ++ [x] := by
  rcases List.eq_nil_or_concat L with h | ⟨D, x, h⟩
  · exact .inl h
  · exact .inr ⟨D, x, by rw [h, List.concat_eq_append]⟩
theorem pvs_snoc (D : List MV) (x : MV) : pvs (D ++ [x]) = pvs D ++ [x.v] := by simp [pvs]
theorem pvs_get {L : List MV} {i : Nat} {x : MV} (h : L[i]? = some x) : (pvs L)[i]? = some x.v := by simp [pvs, h]
set_option maxRecDepth 100000 in
theorem last_ {w : World} {v : Vl} {L : List MV} (hn : v.n = L.length) (hv : VerIn w v.a L) (hl : L.length ≤ 1000000) :
    Calls Tryz.prog 30 #[.slice v.a v.n v.c] w fun e w' => e = .returned (.int .i64 (lastC (pvs L))) ∧ w' = w := by
  obtain ⟨a, n, c⟩ := v
  simp only at hn hv
  subst hn
  rcases snoc_cases L with rfl | ⟨D, x, rfl⟩
  · clear hv hl
    go_enter Tryz.func30, Tryz.ntmps30
    go_wp2_with fail
    go_ret
    exact ⟨rfl, rfl⟩
  · obtain ⟨g, rfl, hg, c1, _, _⟩ := hv D.length x (by simp)
    rw [pvs_snoc, last_snoc, List.length_append]
    rw [List.length_append] at hl
    simp only [List.length_cons, List.length_nil, Nat.zero_add] at hl ⊢
    clear hv
    generalize D.length = d at *
    have h0 : ¬ ((d : Int) + 1 = 0) := by omega
    have hw := wraps_i64 (d : Int) (by omega) (by omega)
    go_enter Tryz.func30, Tryz.ntmps30
    go_wp2_with fail
    go_ret
    exact ⟨rfl, rfl⟩
set_option maxRecDepth 100000 in
theorem up1_ {w : World} {bc bt i : Nat} {v : Vl} {L : List MV} {t : Int} {x : MV} (hn : v.n = L.length) (hv : VerIn w v.a L) (hx : L[i]? = some x) (c0 : w.cell? ⟨bc, 0, none⟩ = some (.slice v.a v.n v.c)) (c1 : w.cell? ⟨bt, 0, none⟩ = some (.int .i64 t)) :
    Calls Tryz.prog 60 #[.int .i64 i, .pointer (some ⟨bc, 0, none⟩), .pointer (some ⟨bt, 0, none⟩)] w fun e w' => e = .returned (.bool (decide (t < x.v.cm))) ∧ Below w.heap.size w w' := by
  obtain ⟨a, n, c⟩ := v
  simp only at hn hv c0
  have hi := (List.getElem?_eq_some_iff.1 hx).1
  rw [← hn] at hi
  obtain ⟨g, rfl, hg, c2, _, _⟩ := hv i x hx
  have HB := Lib.hid (below_drew w)
  generalize x.v.cm = m at *
  clear hn hv hx hg
  go_enter Tryz.func60, Tryz.ntmps60
  go_wp2_with fail
  go_region_held (fun V => V.cell? ⟨bc, 0, none⟩ = some (.slice (some ⟨g, 0, none⟩) n c) ∧ V.cell? ⟨bt, 0, none⟩ = some (.int .i64 t) ∧ V.cell? ⟨g, i * 3, none⟩ = some (.int .i64 m)) (go_keep) (fail)
  go_wp2_with fail
  go_ret
  exact ⟨rfl, HB.out⟩
set_option maxRecDepth 100000 in
set_option maxHeartbeats 1000000 in
theorem search_ {w : World} {n u bc bt : Nat} (hu : u ≤ n) (hn : n ≤ 1000000) (HF : ∀ V (i : Nat), Below w.heap.size w V → i < n → Calls Tryz.prog 60 #[.int .i64 i, .pointer (some ⟨bc, 0, none⟩), .pointer (some ⟨bt, 0, none⟩)] V fun e w' => e = .returned (.bool (decide (u ≤ i))) ∧ Below V.heap.size V w') :
    Calls Tryz.prog 59 #[.int .i64 n, .func (.func 60) #[] #[.pointer (some ⟨bc, 0, none⟩), .pointer (some ⟨bt, 0, none⟩)]] w fun e w' => e = .returned (.int .i64 u) ∧ Below w.heap.size w w' := by
  have B0 := Lib.hid (Below.refl w.heap.size w)
  have HH := Lib.hid HF
  clear HF
  go_enter Tryz.func59, Tryz.ntmps59
  go_wp2_with fail
  go_loopg [5, 6] n (fun kx s9 s10 wr => ∃ lo hi : Nat, s9 = .int .i64 lo ∧ s10 = .int .i64 hi ∧ lo ≤ u ∧ u ≤ hi ∧ hi ≤ n ∧ hi - lo ≤ kx ∧ Hid (Below w.heap.size w wr))
  case atStart => exact ⟨0, n, rfl, rfl, Nat.zero_le _, hu, Nat.le_refl _, by omega, B0⟩
  case round =>
    clear B0
    obtain ⟨lo, hi, rfl, rfl, hlu, huh, hin, hg, S1⟩ := hrel
    by_cases hlt : lo < hi
    · have HC := Lib.hid (HH.out wr ((lo + hi) / 2) S1.out (by omega))
      by_cases hm : u ≤ (lo + hi) / 2
      · have hd : decide (u ≤ (lo + hi) / 2) = true := decide_eq_true hm
        rw [hd] at HC
        clear hd
        go_wp2_with (first | (go_at_call 60; refine HC.out.mono ?_; rintro e w' ⟨rfl, hb⟩; have HB := Lib.hid hb; clear hb) | fail)
        go_roundg ((lo + hi) / 2 - lo)
        case measure => omega
        case rel => exact ⟨lo, (lo + hi) / 2, rfl, by rw [show ((lo : Int) + (hi : Int)) / 2 = (((lo + hi) / 2 : Nat) : Int) by omega], by omega, by omega, by omega, Nat.le_refl _, below_step S1.out HB.out⟩
      · have hd : decide (u ≤ (lo + hi) / 2) = false := decide_eq_false hm
        rw [hd] at HC
        clear hd
        go_wp2_with (first | (go_at_call 60; refine HC.out.mono ?_; rintro e w' ⟨rfl, hb⟩; have HB := Lib.hid hb; clear hb) | fail)
        go_roundg (hi - ((lo + hi) / 2 + 1))
        case measure => omega
        case rel => exact ⟨(lo + hi) / 2 + 1, hi, by rw [show ((lo : Int) + (hi : Int)) / 2 + 1 = (((lo + hi) / 2 + 1 : Nat) : Int) by omega], rfl, by omega, by omega, hin, Nat.le_refl _, below_step S1.out HB.out⟩
    · obtain rfl : hi = lo := by omega
      obtain rfl : u = hi := by omega
      go_wp2_with fail
      go_ret
      exact ⟨rfl, S1.out⟩
end Go.Proofs.YtagamkahfiackaaGreatDoor

namespace Go.Proofs.YtagamkahfiackaaGreatDoor
open Go.RowKit Go.Sort

theorem two_box (w : World) (A B : Obj) : Below w.heap.size w ((w.alloc A).alloc B) ∧ ((w.alloc A).alloc B).heap[w.heap.size]? = some A ∧ ((w.alloc A).alloc B).heap[w.heap.size + 1]? = some B := by
  have hs : (w.alloc A).heap.size = w.heap.size + 1 := by simp [go_sem]
  refine ⟨below_step (below_alloc w A) (below_alloc _ B), ?_, ?_⟩
  · rw [Below.heap_alloc _ _ _ (by rw [hs]; omega)]
    exact new_blk w A
  · rw [← hs]; exact new_blk _ _
set_option maxRecDepth 100000 in
theorem upTo_ {w : World} {v : Vl} {L : List MV} (hn : v.n = L.length) (hv : VerIn w v.a L) (hl : L.length ≤ 1000000) (ha : AscC (pvs L)) (t : Int) :
    Calls Tryz.prog 42 #[.slice v.a v.n v.c, .int .i64 t] w fun e w' => e = .returned (.int .i64 (upC (pvs L) t)) ∧ Below w.heap.size w w' := by
  obtain ⟨W, hW⟩ : ∃ W, W = (w.alloc (.cells #[.slice v.a v.n v.c] 52)).alloc (.cells #[.int .i64 t] 3) := ⟨_, rfl⟩
  obtain ⟨b0, b1, b2⟩ := two_box w (.cells #[.slice v.a v.n v.c] 52) (.cells #[.int .i64 t] 3)
  rw [← hW] at b0 b1 b2
  have hul : upC (pvs L) t ≤ v.n := by rw [hn, ← pvs_len]; exact up_le _ _
  have HS := Lib.hid (search_ (w := W) (bc := w.heap.size) (bt := w.heap.size + 1) hul (by omega) fun V i hV hi => by
    obtain ⟨x, hx⟩ := getElem?_of_lt (show i < L.length by omega)
    have e := up_at ha t (pvs_get hx)
    have := up1_ (w := V) (bc := w.heap.size) (bt := w.heap.size + 1) (t := t) hn (hv.on (below_step b0 hV)) hx (cell_of ((hV.block _ (blk_lt b1)).trans b1) rfl) (cell_of ((hV.block _ (blk_lt b2)).trans b2) rfl)
    rw [show decide (t < x.v.cm) = decide (upC (pvs L) t ≤ i) from by simp only [e]] at this
    exact this)
  have HB := Lib.hid b0
  generalize upC (pvs L) t = u at *
  obtain ⟨a, n, c⟩ := v
  simp only at hW HS
  rw [hW] at HS HB
  clear hn hv b0 b1 b2 hul hW
  go_enter Tryz.func42, Tryz.ntmps42
  go_wp2_with (first | (go_at_call 59; refine HS.out.mono ?_; rintro e w' ⟨rfl, hb⟩; have HB2 := Lib.hid hb; clear hb) | fail)
  go_ret
  exact ⟨rfl, below_step HB.out HB2.out⟩
/-- What a key has as of a commit. -/
def asL (L : List MV) (t : Int) : Option MV := if upC (pvs L) t = 0 then none else L[upC (pvs L) t - 1]?
theorem asL_as {L : List MV} (h : AscC (pvs L)) (t : Int) : asC (pvs L) t = (asL L t).map (·.v) := by
  rw [as_at h]
  unfold asL
  split
  · rfl
  · simp [pvs]
def rwV : Option MV → Vl
  | none => vz
  | some x => if x.v.gn then vz else x.r
def rwB : Option MV → Bool
  | none => false
  | some x => !x.v.gn
set_option maxRecDepth 100000 in
theorem row_ {w : World} {v : Vl} {L : List MV} (hn : v.n = L.length) (hv : VerIn w v.a L) (hl : L.length ≤ 1000000) (ha : AscC (pvs L)) (t : Int) :
    Calls Tryz.prog 24 #[.slice v.a v.n v.c, .int .i64 t] w fun e w' => e = .returned (.tuple #[.slice (rwV (asL L t)).a (rwV (asL L t)).n (rwV (asL L t)).c, .bool (rwB (asL L t))]) ∧ Below w.heap.size w w' := by
  have HU := Lib.hid (upTo_ hn hv hl ha t)
  have hul : upC (pvs L) t ≤ L.length := by rw [← pvs_len]; exact up_le _ _
  obtain ⟨o, ho⟩ : ∃ o, o = asL L t := ⟨_, rfl⟩
  rw [← ho]
  unfold asL at ho
  generalize upC (pvs L) t = u at *
  obtain ⟨a, n, c⟩ := v
  simp only at hn hv HU
  rw [← hn] at hul hl
  rcases Nat.eq_zero_or_pos u with rfl | hp
  · rw [if_pos rfl] at ho
    subst ho
    clear hn hv hul hl
    unfold rwV rwB
    go_enter Tryz.func24, Tryz.ntmps24
    go_wp2_with (first | (go_at_call 42; refine HU.out.mono ?_; rintro e w' ⟨rfl, hb⟩; have HB2 := Lib.hid hb; clear hb) | fail)
    go_ret2
    exact ⟨rfl, HB2.out⟩
  · obtain ⟨j, rfl⟩ : ∃ j, u = j + 1 := ⟨u - 1, by omega⟩
    rw [if_neg (by omega)] at ho
    obtain ⟨x, hx⟩ := getElem?_of_lt (show j < L.length by omega)
    rw [show j + 1 - 1 = j by omega, hx] at ho
    subst ho
    obtain ⟨⟨cm, tx, gn⟩, ⟨ra, rn, rc⟩⟩ := x
    obtain ⟨g, rfl, hg, c1, c2, c3⟩ := hv j _ hx
    simp only at c1 c2 c3
    have HC : Hid (∀ V, Below w.heap.size w V → V.cell? ⟨g, j * 3 + 1, none⟩ = some (.slice ra rn rc) ∧ V.cell? ⟨g, j * 3 + 2, none⟩ = some (.bool gn)) := fun V hV => ⟨(hV.cell (p := ⟨g, j * 3 + 1, none⟩) hg).trans c2, (hV.cell (p := ⟨g, j * 3 + 2, none⟩) hg).trans c3⟩
    have HU' : Hid (Calls Tryz.prog 42 #[.slice (some ⟨g, 0, none⟩) n c, .int .i64 t] w fun e w' => e = .returned (.int .i64 ((j : Int) + 1)) ∧ Below w.heap.size w w') := by
      have := HU.out
      rw [show (((j + 1 : Nat) : Int)) = (j : Int) + 1 by omega] at this
      exact this
    have hjn : (j : Int) < n := by omega
    have hw := wraps_i64 (j : Int) (by omega) (by omega)
    have h0 : ¬ ((j : Int) + 1 = 0) := by omega
    clear HU hn hv hx c1 c2 c3 hg hul
    cases gn with
    | true =>
      simp only [rwV, rwB, if_true, Bool.not_true]
      go_enter Tryz.func24, Tryz.ntmps24
      go_wp2_with (first | (go_at_call 42; refine HU'.out.mono ?_; rintro e w' ⟨rfl, hb⟩; have HB2 := Lib.hid hb; obtain ⟨d1, d2⟩ := HC.out _ hb; clear hb) | fail)
      go_ret2
      exact ⟨rfl, HB2.out⟩
    | false =>
      simp only [rwV, rwB, Bool.false_eq_true, if_false, Bool.not_false]
      go_enter Tryz.func24, Tryz.ntmps24
      go_wp2_with (first | (go_at_call 42; refine HU'.out.mono ?_; rintro e w' ⟨rfl, hb⟩; have HB2 := Lib.hid hb; obtain ⟨d1, d2⟩ := HC.out _ hb; clear hb) | fail)
      go_ret2
      exact ⟨rfl, HB2.out⟩
/-- A version laid behind a chain, or in its last one's place. -/
def withM (L : List MV) (x : MV) : List MV := if lastC (pvs L) = x.v.cm then L.dropLast ++ [x] else L ++ [x]
theorem withM_pvs (L : List MV) (x : MV) : pvs (withM L x) = withC (pvs L) x.v := by
  unfold withM withC
  split <;> simp [pvs]
theorem withM_mem {L : List MV} {x y : MV} (h : y ∈ withM L x) : y = x ∨ y ∈ L := by
  unfold withM at h
  split at h
  · rcases List.mem_append.1 h with h | h
    · exact .inr ((List.dropLast_sublist L).subset h)
    · exact .inl (List.mem_singleton.1 h)
  · rcases List.mem_append.1 h with h | h
    · exact .inr h
    · exact .inl (List.mem_singleton.1 h)
/-- What with leaves. -/
def WithTo (w : World) (v : Vl) (L : List MV) (e : Ending) (w' : World) : Prop :=
  ∃ g cap, e = .returned (.slice (some ⟨g, 0, none⟩) L.length cap) ∧ RowV w' (.slice (some ⟨g, 0, none⟩) L.length cap) L ∧ w.grownBy w' (Value.slice v.a v.n v.c).ownBlock ∧ ((Value.slice v.a v.n v.c).ownBlock = some g ∨ w.heap.size ≤ g)
set_option maxRecDepth 100000 in
set_option maxHeartbeats 1000000 in
theorem with_ {w : World} {v : Vl} {L : List MV} (x : MV) (h : RowV w (.slice v.a v.n v.c) L) (hl : L.length ≤ 1000000) (h1 : 1 ≤ x.v.cm) :
    Calls Tryz.prog 37 #[.slice v.a v.n v.c, .agg #[.int .i64 x.v.cm, .slice x.r.a x.r.n x.r.c, .bool x.v.gn]] w (WithTo w v (withM L x)) := by
  obtain ⟨hn, hv, hc63⟩ := h.shape
  obtain ⟨i0, hi0, hz0, hz1, hz2⟩ := info_parts infoVer
  obtain ⟨W, hW⟩ : ∃ W, W = w.alloc (.cells #[.int .i64 x.v.cm, .slice x.r.a x.r.n x.r.c, .bool x.v.gn] 90) := ⟨_, rfl⟩
  have hB0 : Below w.heap.size w W := by rw [hW]; exact below_alloc _ _
  have hbx : W.heap[w.heap.size]? = some (.cells (vCells x).toArray 90 (0, 0)) := by rw [hW]; exact new_blk _ _
  have HK : Hid (∀ V, Below W.heap.size W V → (Below W.heap.size W V ∧ V.cell? ⟨w.heap.size, 0, none⟩ = some (.int .i64 x.v.cm))) := fun V hV => ⟨hV, cell_of ((hV.block _ (blk_lt hbx)).trans hbx) rfl⟩
  have HL : Hid (∀ V, Below W.heap.size W V → Calls Tryz.prog 30 #[.slice v.a v.n v.c] V fun e w' => e = .returned (.int .i64 (lastC (pvs L))) ∧ w' = V) := fun V hV => last_ hn (hv.on (below_step hB0 hV)) hl
  have HR : Hid (∀ V, Below W.heap.size W V → V.cell? ⟨w.heap.size, 0, none⟩ = some (.int .i64 x.v.cm) ∧ V.cell? ⟨w.heap.size, 1, none⟩ = some (.slice x.r.a x.r.n x.r.c) ∧ V.cell? ⟨w.heap.size, 2, none⟩ = some (.bool x.v.gn) ∧ RowV (V.alloc (.cells (vCells x).toArray 90)) (.slice v.a v.n v.c) L ∧ w.grownBy (V.alloc (.cells (vCells x).toArray 90)) (Value.slice v.a v.n v.c).ownBlock ∧ w.heap.size ≤ V.heap.size) := fun V hV => by
    have hb := (hV.block _ (blk_lt hbx)).trans hbx
    have hwV := below_step hB0 hV
    have hwA := below_step hwV (below_alloc V (.cells (vCells x).toArray 90))
    exact ⟨cell_of hb rfl, cell_of hb rfl, cell_of hb rfl, row_on h hwA, grown_below _ hwA, hwV.size⟩
  have HZ : Hid (W = w.alloc (.cells #[.int .i64 x.v.cm, .slice x.r.a x.r.n x.r.c, .bool x.v.gn] 90)) := hW
  have hone : ∀ u ∈ vCells x, u.oneCell' = true := fun u hu => cV_one [x] u (by simpa [cV] using hu)
  have HN : Hid (∀ V : World, ∀ j u, (vCells x)[j]? = some u → (V.alloc (.cells (vCells x).toArray 90)).cell? ((⟨V.heap.size, 0, none⟩ : Addr).add j) = some u) := fun V j u hj => World.news_of_block (new_blk V _) j u hj
  have HS : Hid (W.heap.size = w.heap.size + 1) := by show _ = _; rw [hW]; simp [go_sem]
  by_cases hle : lastC (pvs L) = x.v.cm
  · rcases snoc_cases L with rfl | ⟨D, y, rfl⟩
    · rw [show lastC (pvs []) = 0 from rfl] at hle; omega
    · have hnd : v.n = D.length + 1 := by rw [hn]; simp
      obtain ⟨g0, c0, cur, e0, hg0, hnc, hcm, hcs, hx0⟩ := row_open h (by simp)
      simp only [Value.slice.injEq] at e0
      obtain ⟨ea, _, ec⟩ := e0
      have eW : withM (D ++ [y]) x = D ++ [x] := by unfold withM; rw [if_pos hle, List.dropLast_concat]
      rw [eW]
      have hD : D.length ≤ c0 := by simp at hnc; omega
      have hrow : ∀ V : World, V.heap[g0]? = some (.cells cur 90 (0, 0)) → RowV V (.slice (some ⟨g0, 0, none⟩) D.length c0) D := fun V hV => by
        refine row_mk hV hD hcm hcs ?_
        have e1 : cV D = (cV (D ++ [y])).take (D.length * 3) := by rw [cV_take, List.take_left]
        rw [e1, ← hx0, List.take_take, Nat.min_eq_left (by simp; omega)]
      have HR2 : Hid (∀ V, Below W.heap.size W V → V.cell? ⟨w.heap.size, 0, none⟩ = some (.int .i64 x.v.cm) ∧ V.cell? ⟨w.heap.size, 1, none⟩ = some (.slice x.r.a x.r.n x.r.c) ∧ V.cell? ⟨w.heap.size, 2, none⟩ = some (.bool x.v.gn) ∧ (V.alloc (.cells (vCells x).toArray 90)).ownsRow 0 90 3 (.slice (some ⟨g0, 0, none⟩) D.length c0) D.length (cV D) ∧ w.grownBy (V.alloc (.cells (vCells x).toArray 90)) (some g0) ∧ w.heap.size ≤ V.heap.size) := fun V hV => by
        obtain ⟨r1, r2, r3, _, r5, r6⟩ := HR.out V hV
        rw [ea] at r5
        have hb : Below w.heap.size w (V.alloc (.cells (vCells x).toArray 90)) := by
          have := below_step (by rw [hW]; exact below_alloc _ _ : Below w.heap.size w W) hV
          exact below_step this (below_alloc V _)
        exact ⟨r1, r2, r3, hrow _ ((hb.block g0 (blk_lt hg0)).trans hg0), r5, r6⟩
      have HLe : Hid (lastC (pvs (D ++ [y])) = x.v.cm) := hle
      rw [hle] at HL
      have hd1 : D.length ≤ 999999 := by simp at hl; omega
      have hw := wraps_i64 (D.length : Int) (by omega) (by omega)
      rw [← ec] at hD HR2
      have hdc : (D.length : Int) ≤ v.c := by omega
      have HT : Hid (∀ V g cap w1, Below W.heap.size W V → w1.ownsRow 0 90 3 (.slice (some ⟨g, 0, none⟩) (D.length + 1) cap) (D.length + 1) (cV D ++ vCells x) → (V.alloc (.cells (vCells x).toArray 90)).grownBy w1 (some g0) → (some g0 = some g ∨ g = (V.alloc (.cells (vCells x).toArray 90)).heap.size) → WithTo w v (D ++ [x]) (.returned (.slice (some ⟨g, 0, none⟩) (D.length + 1) cap)) w1) := fun V g cap w1 hV h1 h2 h3 => by
        obtain ⟨_, _, _, _, r5, r6⟩ := HR2.out V hV
        have e3 : (Value.slice v.a v.n v.c).ownBlock = some g ∨ w.heap.size ≤ g := by
          rw [ea]
          rcases h3 with e | e
          · exact .inl e
          · rw [e]; right; simp [go_sem]; omega
        have e4 : w.grownBy w1 (Value.slice v.a v.n v.c).ownBlock := by rw [ea]; exact grown_trans r5 h2
        refine ⟨g, cap, by simp, ?_, e4, e3⟩
        unfold RowV
        rw [cV_append, List.length_append]
        simpa [cV] using h1
      rw [ea, hnd] at HL ⊢
      clear HR hn ea ec hx0 hg0 hnc hcm hcs hrow eW hle hnd hl
      generalize v.c = vc at *
      generalize D.length = d at *
      have heq : (x.v.cm == x.v.cm) = true := by simp
      go_enter Tryz.func37, Tryz.ntmps37
      go_wp2_with fail
      rw [← hW]
      clear hW
      refine wp_region_noPanic ?_
      go_region_held (fun V => Below W.heap.size W V ∧ V.cell? ⟨w.heap.size, 0, none⟩ = some (.int .i64 x.v.cm))
        (first | (exact HK.out _ (below_drew _)) | (exact HK.out _ (below_step (by assumption : Below W.heap.size W _ ∧ _).1 (by assumption))) | assumption)
        (first
          | (go_at_call 30; refine (HL.out _ (by assumption : Below W.heap.size W _ ∧ _).1).mono ?_; rintro e w' ⟨rfl, rfl⟩)
          | fail)
      refine NoPanic.normal ?_
      obtain ⟨r1, r2, r3, HRow, _, _⟩ := HR2.out W.drew (below_drew W)
      have HRw := Lib.hid HRow
      have HTW := Lib.hid (HT.out W.drew · · · (below_drew W))
      have HNW := Lib.hid (HN.out W.drew)
      have hvc : vCells x = [.int .i64 x.v.cm, .slice x.r.a x.r.n x.r.c, .bool x.v.gn] := rfl
      clear HRow HT HR2 HN HL HK HLe HZ
      go_wp2_with (first
        | (at_builtin; refine wpList_append_lies _ rfl _ _ 52 rfl 0 90 i0 _ 3 40 Tryz.underlying52 hi0 hz0 hz1 hz2 rfl (by decide) _ d _ rfl HRw.out ⟨_, 0, none⟩ 1 1 (vCells x) rfl rfl HNW.out hone (by decide) (by unfold maxLen; omega) (by omega) (Nat.zero_le _) _ rfl ?_
           intro g cap w1 hown hgrow hat hlt
           have HZ := Lib.hid (HTW.out g cap w1 hown hgrow hat)
           clear hown hgrow hat hlt HTW HRw HNW)
        | fail)
      go_ret
      exact HZ.out
  · have eW : withM L x = L ++ [x] := by unfold withM; rw [if_neg hle]
    rw [eW]
    have HR2 : Hid (∀ V, Below W.heap.size W V → V.cell? ⟨w.heap.size, 0, none⟩ = some (.int .i64 x.v.cm) ∧ V.cell? ⟨w.heap.size, 1, none⟩ = some (.slice x.r.a x.r.n x.r.c) ∧ V.cell? ⟨w.heap.size, 2, none⟩ = some (.bool x.v.gn) ∧ (V.alloc (.cells (vCells x).toArray 90)).ownsRow 0 90 3 (.slice v.a v.n v.c) v.n (cV L) ∧ w.grownBy (V.alloc (.cells (vCells x).toArray 90)) (Value.slice v.a v.n v.c).ownBlock ∧ w.heap.size ≤ V.heap.size) := fun V hV => by
      have := HR.out V hV
      unfold RowV at this
      rw [← hn] at this
      exact this
    have HT : Hid (∀ V g cap w1, Below W.heap.size W V → w1.ownsRow 0 90 3 (.slice (some ⟨g, 0, none⟩) (v.n + 1) cap) (v.n + 1) (cV L ++ vCells x) → (V.alloc (.cells (vCells x).toArray 90)).grownBy w1 (Value.slice v.a v.n v.c).ownBlock → ((Value.slice v.a v.n v.c).ownBlock = some g ∨ g = (V.alloc (.cells (vCells x).toArray 90)).heap.size) → WithTo w v (L ++ [x]) (.returned (.slice (some ⟨g, 0, none⟩) (v.n + 1) cap)) w1) := fun V g cap w1 hV h1 h2 h3 => by
      obtain ⟨_, _, _, _, r5, r6⟩ := HR2.out V hV
      have e3 : (Value.slice v.a v.n v.c).ownBlock = some g ∨ w.heap.size ≤ g := by
        rcases h3 with e | e
        · exact .inl e
        · rw [e]; right; simp [go_sem]; omega
      refine ⟨g, cap, by simp [hn], ?_, grown_trans r5 h2, e3⟩
      unfold RowV
      rw [cV_append, List.length_append]
      simpa [cV, hn] using h1
    have hnl : v.n ≤ 1000000 := by omega
    have hne : (lastC (pvs L) == x.v.cm) = false := beq_false_of_ne hle
    clear HR hn eW hle hl
    generalize lastC (pvs L) = lc at *
    generalize v.n = n at *
    generalize v.c = vc at *
    generalize v.a = va at *
    go_enter Tryz.func37, Tryz.ntmps37
    go_wp2_with fail
    rw [← hW]
    clear hW
    refine wp_region_noPanic ?_
    go_region_held (fun V => Below W.heap.size W V ∧ V.cell? ⟨w.heap.size, 0, none⟩ = some (.int .i64 x.v.cm))
      (first | (exact HK.out _ (below_drew _)) | (exact HK.out _ (below_step (by assumption : Below W.heap.size W _ ∧ _).1 (by assumption))) | assumption)
      (first
        | (go_at_call 30; refine (HL.out _ (by assumption : Below W.heap.size W _ ∧ _).1).mono ?_; rintro e w' ⟨rfl, rfl⟩)
        | fail)
    refine NoPanic.normal ?_
    obtain ⟨r1, r2, r3, HRow, _, _⟩ := HR2.out W.drew (below_drew W)
    have HRw := Lib.hid HRow
    have HTW := Lib.hid (HT.out W.drew · · · (below_drew W))
    have HNW := Lib.hid (HN.out W.drew)
    have hvc : vCells x = [.int .i64 x.v.cm, .slice x.r.a x.r.n x.r.c, .bool x.v.gn] := rfl
    clear HRow HT HR2 HN HL HK HZ
    go_wp2_with (first
      | (at_builtin; refine wpList_append_lies _ rfl _ _ 52 rfl 0 90 i0 _ 3 40 Tryz.underlying52 hi0 hz0 hz1 hz2 rfl (by decide) _ n _ rfl HRw.out ⟨_, 0, none⟩ 1 1 (vCells x) rfl rfl HNW.out hone (by decide) (by unfold maxLen; omega) (by omega) (Nat.zero_le _) _ rfl ?_
         intro g cap w1 hown hgrow hat hlt
         have HZ := Lib.hid (HTW.out g cap w1 hown hgrow hat)
         clear hown hgrow hat hlt HTW HRw HNW)
      | fail)
    go_ret
    exact HZ.out
end Go.Proofs.YtagamkahfiackaaGreatDoor
