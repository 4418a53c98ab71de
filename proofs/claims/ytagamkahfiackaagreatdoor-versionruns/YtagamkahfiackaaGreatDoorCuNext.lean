/- Plain facts on the least text above all that begin with one. No program is in it. -/
import Derived.Test.YtagamkahfiackaaGreatDoorVMath
namespace Go.Proofs.YtagamkahfiackaaGreatDoor
open Go.Lib

/-- The least text above all that begin with l, if there is one. -/
def nxt : List UInt8 → Option (List UInt8)
  | [] => none
  | c :: l => match nxt l with
    | some t => some (c :: t)
    | none => if c.toNat = 255 then none else some [UInt8.ofNat (c.toNat + 1)]
def full (l : List UInt8) : Prop := ∀ c ∈ l, c.toNat = 255
theorem nxt_none : ∀ l, nxt l = none ↔ full l
  | [] => by simp [nxt, full]
  | c :: l => by
    have ih := nxt_none l
    rw [nxt]
    cases h : nxt l with
    | some t =>
      have : ¬ full l := fun hf => by rw [ih.2 hf] at h; cases h
      refine ⟨(fun e => by cases e), fun hf => absurd (fun x hx => hf x (by simp [hx])) this⟩
    | none =>
      have hf := ih.1 h
      by_cases hc : c.toNat = 255
      · simp only [if_pos hc, true_iff]
        intro x hx
        rcases List.mem_cons.1 hx with rfl | hx
        · exact hc
        · exact hf x hx
      · simp only [if_neg hc]
        exact ⟨(fun e => by cases e), fun hh => absurd (hh c (by simp)) hc⟩
theorem up_byte {c : UInt8} (h : ¬ c.toNat = 255) : (UInt8.ofNat (c.toNat + 1)).toNat = c.toNat + 1 := by
  have := c.toNat_lt
  rw [UInt8.toNat_ofNat']; omega
/-- Where it is: behind the last byte that is not 255 all is cut off. -/
theorem nxt_at : ∀ (p : List UInt8) (c : UInt8) (q : List UInt8), ¬ c.toNat = 255 → full q → nxt (p ++ c :: q) = some (p ++ [UInt8.ofNat (c.toNat + 1)])
  | [], c, q, hc, hq => by
    rw [List.nil_append, nxt, (nxt_none q).2 hq]
    simp only [if_neg hc]
    rfl
  | x :: p, c, q, hc, hq => by rw [List.cons_append, nxt, nxt_at p c q hc hq]; rfl
theorem nxt_above : ∀ {l t : List UInt8}, nxt l = some t → ∀ b, Op.bytesLess (l ++ b) t = true
  | [], t, h, _ => by cases h
  | c :: l, t, h, b => by
    rw [nxt] at h
    cases hn : nxt l with
    | some u =>
      rw [hn] at h
      cases h
      rw [List.cons_append, less_cons]
      exact .inr ⟨rfl, nxt_above hn b⟩
    | none =>
      rw [hn] at h
      by_cases hc : c.toNat = 255
      · simp only [if_pos hc] at h; cases h
      · simp only [if_neg hc] at h
        cases h
        rw [List.cons_append, less_cons, up_byte hc]
        exact .inl (by omega)
theorem full_prefix : ∀ l o : List UInt8, full l → Op.bytesLess o l = false → l <+: o
  | [], _, _, _ => List.nil_prefix
  | c :: l, [], _, h => by simp [Op.bytesLess] at h
  | c :: l, d :: o, hf, h => by
    have n1 : ¬ Op.bytesLess (d :: o) (c :: l) = true := by rw [h]; simp
    rw [less_cons] at n1
    have hc := hf c (by simp)
    have hd := d.toNat_lt
    have e : d = c := UInt8.toNat_inj.1 (by omega)
    subst e
    have := full_prefix l o (fun x hx => hf x (by simp [hx])) (by by_cases hh : Op.bytesLess o l = true; exact absurd (Or.inr ⟨rfl, hh⟩) n1; simpa using hh)
    exact List.prefix_cons_inj d |>.2 this
theorem nxt_between : ∀ {l t o : List UInt8}, nxt l = some t → Op.bytesLess o l = false → Op.bytesLess o t = true → l <+: o
  | [], t, o, h, _, _ => by cases h
  | c :: l, t, [], _, h, _ => by simp [Op.bytesLess] at h
  | c :: l, t, d :: o, h, h1, h2 => by
    have n1 : ¬ Op.bytesLess (d :: o) (c :: l) = true := by rw [h1]; simp
    rw [less_cons] at n1
    rw [nxt] at h
    cases hn : nxt l with
    | some u =>
      rw [hn] at h
      cases h
      rw [less_cons] at h2
      rcases h2 with h2 | ⟨rfl, h2⟩
      · exact absurd (Or.inl h2) n1
      · have hl : Op.bytesLess o l = false := by
          by_cases hh : Op.bytesLess o l = true
          · exact absurd (Or.inr ⟨rfl, hh⟩) n1
          · simpa using hh
        exact (List.prefix_cons_inj d).2 (nxt_between hn hl h2)
    | none =>
      rw [hn] at h
      by_cases hc : c.toNat = 255
      · simp only [if_pos hc] at h; cases h
      · simp only [if_neg hc] at h
        cases h
        rw [less_cons, up_byte hc] at h2
        have hdc : d.toNat ≤ c.toNat := by
          rcases h2 with h2 | ⟨_, h2⟩
          · omega
          · cases o <;> simp [Op.bytesLess] at h2
        have e : d = c := UInt8.toNat_inj.1 (by omega)
        subst e
        have hl : Op.bytesLess o l = false := by
          by_cases hh : Op.bytesLess o l = true
          · exact absurd (Or.inr ⟨rfl, hh⟩) n1
          · simpa using hh
        exact (List.prefix_cons_inj d).2 (full_prefix l o ((nxt_none l).1 hn) hl)
end Go.Proofs.YtagamkahfiackaaGreatDoor
