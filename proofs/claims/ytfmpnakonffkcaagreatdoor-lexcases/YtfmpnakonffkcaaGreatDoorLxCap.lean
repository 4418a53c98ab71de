/- Great and small letters of a statement: plainly the same tokens. No program is walked in it. -/
import Derived.Test.YtfmpnakonffkcaaGreatDoorLxMath
namespace Go.Proofs.YtfmpnakonffkcaaGreatDoor
open Go.Lib

def up (c : UInt8) : UInt8 := if 97 ≤ c.toNat ∧ c.toNat ≤ 122 then c - 32 else c
/-- Great letters but within quotes. -/
def cap : Bool → List UInt8 → List UInt8
  | _, [] => []
  | b, c :: r => (if (if c = 39 then !b else b) = true then c else up c) :: cap (if c = 39 then !b else b) r
theorem cap_q (b : Bool) (r : List UInt8) : cap b (39 :: r) = 39 :: cap (!b) r := by
  cases b <;> rfl
theorem cap_in {c : UInt8} (h : c ≠ 39) (r : List UInt8) : cap true (c :: r) = c :: cap true r := by simp [cap, h]
theorem cap_out {c : UInt8} (h : c ≠ 39) (r : List UInt8) : cap false (c :: r) = up c :: cap false r := by simp [cap, h]
theorem cap_len : ∀ (b : Bool) (l : List UInt8), (cap b l).length = l.length
  | _, [] => rfl
  | b, c :: r => by simp only [cap, List.length_cons, cap_len]
theorem all_u8 {p : UInt8 → Bool} (h : ∀ n : Fin 256, p (UInt8.ofNat n.val) = true) (c : UInt8) : p c = true := by
  have := h ⟨c.toNat, c.toNat_lt⟩
  simpa using this
def upOk (c : UInt8) : Bool := (letB (up c) == letB c) && (isDig (up c) == isDig c) && (blk (up c) == blk c) && (ofW (up c) == ofW c) && (low (up c) == low c) && (sg1 (up c) == sg1 c) && ((up c == 39) == (c == 39)) && (!isDig c || up c == c) && (letB c || up c == c)
theorem up_ok (c : UInt8) : upOk c = true := all_u8 (by decide +kernel) c
theorem up_facts (c : UInt8) : letB (up c) = letB c ∧ isDig (up c) = isDig c ∧ blk (up c) = blk c ∧ ofW (up c) = ofW c ∧ low (up c) = low c ∧ sg1 (up c) = sg1 c ∧ ((up c == 39) = (c == 39)) ∧ (isDig c = true → up c = c) ∧ (letB c = false → up c = c) := by
  have h := up_ok c
  simp only [upOk, Bool.and_eq_true, Bool.or_eq_true, beq_iff_eq, Bool.not_eq_true'] at h
  obtain ⟨⟨⟨⟨⟨⟨⟨⟨h1, h2⟩, h3⟩, h4⟩, h5⟩, h6⟩, h7⟩, h8⟩, h9⟩ := h
  refine ⟨h1, h2, h3, h4, h5, h6, h7, fun h => ?_, fun h => ?_⟩
  · rcases h8 with h8 | h8
    · rw [h8] at h; cases h
    · exact h8
  · rcases h9 with h9 | h9
    · rw [h9] at h; cases h
    · exact h9
theorem up_let (c : UInt8) : letB (up c) = letB c := (up_facts c).1
theorem up_dig (c : UInt8) : isDig (up c) = isDig c := (up_facts c).2.1
theorem up_blk (c : UInt8) : blk (up c) = blk c := (up_facts c).2.2.1
theorem up_ofW (c : UInt8) : ofW (up c) = ofW c := (up_facts c).2.2.2.1
theorem up_low (c : UInt8) : low (up c) = low c := (up_facts c).2.2.2.2.1
theorem up_q {c : UInt8} (h : c ≠ 39) : up c ≠ 39 := by
  have h1 := (up_facts c).2.2.2.2.2.2.1
  intro e
  rw [beq_iff_eq.2 e] at h1
  exact h (beq_iff_eq.1 h1.symm)
theorem up_isDig {c : UInt8} (h : isDig c = true) : up c = c := (up_facts c).2.2.2.2.2.2.2.1 h
theorem up_none {c : UInt8} (h : letB c = false) : up c = c := (up_facts c).2.2.2.2.2.2.2.2 h
/-- No sign's second byte is a letter. -/
theorem sg2_up (c d : UInt8) : sg2 [c, up d] = sg2 [c, d] := by
  by_cases h : up d = d
  · rw [h]
  · have hd : 97 ≤ d.toNat ∧ d.toNat ≤ 122 := by
      refine Classical.byContradiction fun hc => h ?_
      rw [up, if_neg hc]
    have hn : (up d).toNat = d.toNat - 32 := by
      rw [up, if_pos hd, UInt8.toNat_sub_of_le _ _ (by rw [UInt8.le_iff_toNat_le]; show 32 ≤ d.toNat; omega)]; rfl
    have g : ∀ (x : UInt8), x.toNat ≠ 62 → x.toNat ≠ 61 → x.toNat ≠ 124 → sg2 [c, x] = false := by
      intro x h1 h2 h3
      have k : ∀ y : UInt8, y.toNat = 62 ∨ y.toNat = 61 ∨ y.toNat = 124 → y ≠ x := fun y hy e => by subst e; omega
      have k1 := k 62 (.inl rfl)
      have k2 := k 61 (.inr (.inl rfl))
      have k3 := k 124 (.inr (.inr rfl))
      simp [sg2, pairs, k1, k2, k3]
    rw [g _ (by omega) (by omega) (by omega), g _ (by omega) (by omega) (by omega)]
theorem sg2_one (c : UInt8) : sg2 [c] = false := by simp [sg2, pairs]
theorem let_q {c : UInt8} (h : letB c = true) : c ≠ 39 := by intro e; subst e; revert h; decide
theorem dig_q {c : UInt8} (h : isDig c = true) : c ≠ 39 := by intro e; subst e; revert h; decide
theorem blk_q {c : UInt8} (h : blk c = true) : c ≠ 39 := by intro e; subst e; revert h; decide
theorem ofW_q {c : UInt8} (h : ofW c = true) : c ≠ 39 := by intro e; subst e; revert h; decide
/-- What bytes that are no quotes say. -/
theorem cap_tw {p : UInt8 → Bool} (hp : ∀ c, p (up c) = p c) (hq : p 39 = false) : ∀ l : List UInt8, (cap false l).takeWhile p = (l.takeWhile p).map up ∧ (cap false l).drop (l.takeWhile p).length = cap false (l.drop (l.takeWhile p).length)
  | [] => ⟨rfl, rfl⟩
  | c :: l => by
    cases h : p c with
    | true =>
      have hc : c ≠ 39 := by intro e; subst e; rw [hq] at h; cases h
      obtain ⟨h1, h2⟩ := cap_tw hp hq l
      rw [cap_out hc, List.takeWhile_cons, List.takeWhile_cons, hp, h]
      simp only [if_true, List.map_cons, List.length_cons, List.drop_succ_cons]
      exact ⟨by rw [h1], h2⟩
    | false =>
      have e : (c :: l).takeWhile p = [] := by rw [List.takeWhile_cons, h]; rfl
      rw [e]
      refine ⟨?_, rfl⟩
      by_cases hc : c = 39
      · subst hc; rw [cap_q, List.takeWhile_cons, h]; rfl
      · rw [cap_out hc, List.takeWhile_cons, hp, h]; rfl
theorem map_dig : ∀ l : List UInt8, (l.takeWhile isDig).map up = l.takeWhile isDig
  | [] => rfl
  | c :: l => by
    cases h : isDig c with
    | true => rw [List.takeWhile_cons, h]; simp only [if_true, List.map_cons, map_dig l, up_isDig h]
    | false => rw [List.takeWhile_cons, h]; rfl
theorem cap_text : ∀ (l : List UInt8), textR (cap true l) = textR l ∧ ∀ x n, textR l = some (x, n) → (cap true l).drop n = cap false (l.drop n)
  | [] => ⟨rfl, fun _ _ h => by cases h⟩
  | [c] => by
    by_cases hc : c = 39
    · subst hc; exact ⟨rfl, fun x n h => by rw [textR_q0] at h; simp at h; obtain ⟨_, rfl⟩ := h; rfl⟩
    · rw [cap_in hc]
      refine ⟨rfl, fun x n h => ?_⟩
      by_cases hb : c.toNat < 32 ∨ 126 < c.toNat
      · rw [textR_bad hc hb] at h; cases h
      · rw [textR_o hc hb] at h; cases h
  | c :: d :: r => by
    by_cases hc : c = 39
    · subst hc
      by_cases hd : d = 39
      · subst hd
        obtain ⟨h1, h2⟩ := cap_text r
        rw [cap_q, cap_q]
        simp only [Bool.not_true, Bool.not_false]
        rw [textR_q2, textR_q2, h1]
        refine ⟨rfl, fun x n h => ?_⟩
        obtain ⟨⟨y, m⟩, hy, e⟩ := Option.map_eq_some_iff.1 h
        simp at e; obtain ⟨_, rfl⟩ := e
        simp only [List.drop_succ_cons]
        exact h2 y m hy
      · rw [cap_q, Bool.not_true, cap_out hd, textR_q1 (up_q hd), textR_q1 hd]
        refine ⟨rfl, fun x n h => ?_⟩
        simp at h; obtain ⟨_, rfl⟩ := h
        simp only [List.drop_succ_cons, List.drop_zero]
        rw [cap_out hd]
    · obtain ⟨h1, h2⟩ := cap_text (d :: r)
      rw [cap_in hc]
      by_cases hb : c.toNat < 32 ∨ 126 < c.toNat
      · rw [textR_bad hc hb, textR_bad hc hb]
        exact ⟨rfl, fun x n h => by cases h⟩
      · rw [textR_o hc hb, textR_o hc hb, h1]
        refine ⟨rfl, fun x n h => ?_⟩
        obtain ⟨⟨y, m⟩, hy, e⟩ := Option.map_eq_some_iff.1 h
        simp at e; obtain ⟨_, rfl⟩ := e
        simp only [List.drop_succ_cons]
        exact h2 y m hy
theorem low_up (l : List UInt8) : (l.map up).map low = l.map low := by rw [List.map_map]; exact List.map_congr_left fun c _ => up_low c
/-- The first token is the same, and so is what follows. -/
theorem cap_first : ∀ l : List UInt8, first (cap false l) = first l ∧ ((first l).e = 0 → (cap false l).drop (first l).s = cap false (l.drop (first l).s))
  | [] => ⟨rfl, fun _ => rfl⟩
  | c :: r => by
    cases h1 : letB c with
    | true =>
      have hc := let_q h1
      obtain ⟨t1, t2⟩ := cap_tw up_ofW (by decide) (c :: r)
      have e1 : first (c :: r) = ⟨⟨1, ofL (((c :: r).takeWhile ofW).map low), 0, 0⟩, ((c :: r).takeWhile ofW).length, 0⟩ := by rw [first]; simp only [h1, if_true]
      have e2 : first (cap false (c :: r)) = ⟨⟨1, ofL (((cap false (c :: r)).takeWhile ofW).map low), 0, 0⟩, ((cap false (c :: r)).takeWhile ofW).length, 0⟩ := by
        rw [cap_out hc, first]; simp only [up_let, h1, if_true]
      rw [e2, e1, t1, low_up, List.length_map]
      exact ⟨rfl, fun _ => t2⟩
    | false =>
      cases h2 : isDig c with
      | true =>
        have hc := dig_q h2
        obtain ⟨t1, t2⟩ := cap_tw up_dig (by decide) (c :: r)
        rw [map_dig] at t1
        have e1 : ∀ l : List UInt8, first (c :: l) = if numV ((c :: l).takeWhile isDig) < 9223372036854775808 then ⟨⟨2, ⟨#[]⟩, (numV ((c :: l).takeWhile isDig) : Nat), 0⟩, ((c :: l).takeWhile isDig).length, 0⟩ else bad 5 := fun l => by rw [first]; simp [h1, h2]
        rw [cap_out hc, up_none h1] at t1 t2 ⊢
        rw [e1, e1, t1]
        refine ⟨rfl, fun h => ?_⟩
        split
        · exact t2
        · rename_i hh; rw [if_neg hh] at h; simp [bad] at h
      | false =>
        by_cases hc : c = 39
        · subst hc
          obtain ⟨t1, t2⟩ := cap_text r
          rw [cap_q, Bool.not_false, first_q, first_q, t1]
          refine ⟨rfl, fun h => ?_⟩
          cases e : textR r with
          | none => rw [e] at h; cases h
          | some y => obtain ⟨x, n⟩ := y; exact t2 x n e
        · have e1 : ∀ l : List UInt8, first (c :: l) = if sg2 ((c :: l).take 2) = true then ⟨⟨4, ofL ((c :: l).take 2), 0, 0⟩, 2, 0⟩ else if sg1 c = true then ⟨⟨4, ofL [c], 0, 0⟩, 1, 0⟩ else bad 3 := fun l => by rw [first]; simp [h1, h2, hc]
          rw [cap_out hc, up_none h1, e1, e1]
          cases r with
          | nil =>
            have e0 : ([c] : List UInt8).take 2 = [c] := rfl
            rw [cap, e0, sg2_one, if_neg (by decide)]
            refine ⟨rfl, fun h => ?_⟩
            by_cases h5 : sg1 c = true
            · rw [if_pos h5]; rfl
            · rw [if_neg h5] at h; cases h
          | cons d r =>
            have e2 : ∀ (x : UInt8) (y : List UInt8), (c :: x :: y).take 2 = [c, x] := fun _ _ => rfl
            by_cases hd : d = 39
            · subst hd
              have e3 : sg2 [c, 39] = false := by simp [sg2, pairs]
              rw [cap_q, e2, e2, e3]
              refine ⟨rfl, fun h => ?_⟩
              rw [if_neg (by decide)] at h ⊢
              by_cases h5 : sg1 c = true
              · rw [if_pos h5]; exact (cap_q false r).symm
              · rw [if_neg h5] at h; cases h
            · rw [cap_out hd, e2, e2, sg2_up]
              cases h4 : sg2 [c, d] with
              | true =>
                have e5 : up d = d := by
                  refine Classical.byContradiction fun hne => ?_
                  have hl : letB d = true := by cases h : letB d with | true => rfl | false => exact absurd (up_none h) hne
                  obtain ⟨x, hx, e⟩ := List.any_eq_true.1 h4
                  have e := beq_iff_eq.1 e
                  have all : ∀ x ∈ pairs, ∀ c d, x = [c, d] → letB d = false := by
                    intro x hx c d e
                    simp only [pairs, List.mem_cons, List.not_mem_nil, or_false] at hx
                    rcases hx with rfl | rfl | rfl | rfl <;> (simp at e; obtain ⟨rfl, rfl⟩ := e; decide)
                  rw [all x hx c d e] at hl; cases hl
                rw [e5]
                exact ⟨rfl, fun _ => rfl⟩
              | false =>
                refine ⟨rfl, fun h => ?_⟩
                rw [if_neg (by decide)] at h ⊢
                by_cases h5 : sg1 c = true
                · rw [if_pos h5]; exact (cap_out hd r).symm
                · rw [if_neg h5] at h; cases h
/-- Great and small letters say the same, but within quotes. -/
theorem lex_cap (l : List UInt8) (a : Nat) : lexL (cap false l) a = lexL l a := by
  induction hn : l.length using Nat.strongRecOn generalizing l a with
  | _ n ih =>
    subst hn
    cases l with
    | nil => rfl
    | cons c r =>
      cases hb : blk c with
      | true =>
        have hc := blk_q hb
        rw [cap_out hc, lexL_blk (by rw [up_blk]; exact hb), lexL_blk hb]
        exact ih _ (by simp) _ _ rfl
      | false =>
        obtain ⟨f1, f2⟩ := cap_first (c :: r)
        obtain ⟨c', r', e, hb'⟩ : ∃ c' r', cap false (c :: r) = c' :: r' ∧ blk c' = false := by
          by_cases hc : c = 39
          · subst hc; exact ⟨_, _, cap_q _ _, hb⟩
          · exact ⟨_, _, cap_out hc _, by rw [up_blk]; exact hb⟩
        rw [e] at f1 f2 ⊢
        by_cases he : (first (c :: r)).e = 0
        · rw [lexL_tok hb' (by rw [f1]; exact he), lexL_tok hb he, f1, f2 he, ih _ (by have := first_ok he; simp only [List.length_drop]; omega) _ _ rfl]
        · rw [lexL_bad hb' (by rw [f1]; exact he), lexL_bad hb he, f1]
end Go.Proofs.YtfmpnakonffkcaaGreatDoor
