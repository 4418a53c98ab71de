/- The words of a statement plainly: the token that a text begins with, and all its tokens. No program is walked in it. -/
import Derived.Test.YtfmpnakonffkcaaGreatDoorLxLit
import Derived.Lib.Case
namespace Go.Proofs.YtfmpnakonffkcaaGreatDoor
open Go.Lib

def lst (s : ByteArray) : List UInt8 := s.data.toList
def ofL (l : List UInt8) : ByteArray := ⟨l.toArray⟩
theorem lst_ofL (l : List UInt8) : lst (ofL l) = l := rfl
theorem ofL_lst (s : ByteArray) : ofL (lst s) = s := by cases s; simp [ofL, lst]
theorem lst_inj {s t : ByteArray} (h : lst s = lst t) : s = t := by rw [← ofL_lst s, ← ofL_lst t, h]
theorem ofL_inj {s t : List UInt8} (h : ofL s = ofL t) : s = t := by have := congrArg lst h; exact this

/-- A token. -/
structure Tk where
  k : Int
  tx : ByteArray
  n : Int
  p : Int
def tk0 : Tk := ⟨0, ⟨#[]⟩, 0, 0⟩
/-- A token but for its place. -/
def Tk.at0 (t : Tk) : Tk := ⟨t.k, t.tx, t.n, 0⟩
def Tk.at_ (t : Tk) (p : Int) : Tk := ⟨t.k, t.tx, t.n, p⟩
theorem at0_at (t : Tk) (p : Int) : (t.at_ p).at0 = t.at0 := rfl
def letB (c : UInt8) : Bool := (decide (97 ≤ c.toNat) && decide (c.toNat ≤ 122)) || (decide (65 ≤ c.toNat) && decide (c.toNat ≤ 90))
def ofW (c : UInt8) : Bool := letB c || isDig c || decide (c.toNat = 95)
def blk (c : UInt8) : Bool := decide (c.toNat = 32) || decide (c.toNat = 9) || decide (c.toNat = 10) || decide (c.toNat = 13)
def low (c : UInt8) : UInt8 := if 65 ≤ c.toNat ∧ c.toNat ≤ 90 then c + 32 else c
/-- The bytes of a text behind its first quote, and how many say them. -/
def textR : List UInt8 → Option (List UInt8 × Nat)
  | [] => none
  | c :: l =>
    if c = 39 then
      match l with
      | [] => some ([], 1)
      | d :: r => if d = 39 then (textR r).map fun x => (39 :: x.1, x.2 + 2) else some ([], 1)
    else if c.toNat < 32 ∨ 126 < c.toNat then none
    else (textR l).map fun x => (c :: x.1, x.2 + 1)
theorem textR_nil : textR [] = none := rfl
theorem textR_q0 : textR [39] = some ([], 1) := rfl
theorem textR_q2 (r : List UInt8) : textR (39 :: 39 :: r) = (textR r).map fun x => (39 :: x.1, x.2 + 2) := rfl
theorem textR_q1 {d : UInt8} (h : d ≠ 39) (r : List UInt8) : textR (39 :: d :: r) = some ([], 1) := by rw [textR.eq_def]; simp [h]
theorem textR_bad {c : UInt8} (h : c ≠ 39) (hb : c.toNat < 32 ∨ 126 < c.toNat) (l : List UInt8) : textR (c :: l) = none := by rw [textR.eq_def]; simp only [h, hb, if_false, if_true]
theorem textR_o {c : UInt8} (h : c ≠ 39) (hb : ¬ (c.toNat < 32 ∨ 126 < c.toNat)) (l : List UInt8) : textR (c :: l) = (textR l).map fun x => (c :: x.1, x.2 + 1) := by rw [textR.eq_def]; simp only [h, hb, if_false]
def pairs : List (List UInt8) := [[60, 62], [60, 61], [62, 61], [124, 124]]
def ones : List UInt8 := [40, 41, 44, 42, 43, 45, 47, 37, 61, 60, 62]
def sg2 (l : List UInt8) : Bool := pairs.any fun x => x == l
def sg1 (c : UInt8) : Bool := ones.any fun x => x == c
/-- The number that digits are. -/
def dv (n : Nat) (c : UInt8) : Nat := 10 * n + (c.toNat - 48)
def numV (l : List UInt8) : Nat := l.foldl dv 0
structure Got where
  t : Tk
  s : Nat
  e : Int
def bad (e : Int) : Got := ⟨tk0, 0, e⟩
def txtG : Option (List UInt8 × Nat) → Got
  | none => bad 3
  | some x => ⟨⟨3, ofL x.1, 0, 0⟩, x.2 + 1, 0⟩
/-- The token that a text begins with, how many bytes say it, or the error. -/
def first (l : List UInt8) : Got :=
  match l with
  | [] => bad 3
  | c :: r =>
    if letB c = true then ⟨⟨1, ofL (((c :: r).takeWhile ofW).map low), 0, 0⟩, ((c :: r).takeWhile ofW).length, 0⟩
    else if isDig c = true then (if numV ((c :: r).takeWhile isDig) < 9223372036854775808 then ⟨⟨2, ⟨#[]⟩, (numV ((c :: r).takeWhile isDig) : Nat), 0⟩, ((c :: r).takeWhile isDig).length, 0⟩ else bad 5)
    else if c = 39 then txtG (textR r)
    else if sg2 ((c :: r).take 2) = true then ⟨⟨4, ofL ((c :: r).take 2), 0, 0⟩, 2, 0⟩
    else if sg1 c = true then ⟨⟨4, ofL [c], 0, 0⟩, 1, 0⟩
    else bad 3
/-- All tokens of a text that begins at a place, the place behind, the error. -/
structure Lxd where
  ts : List Tk
  p : Nat
  e : Int
def lexL (l : List UInt8) (at_ : Nat) : Lxd :=
  match l with
  | [] => ⟨[], at_, 0⟩
  | c :: r =>
    if blk c = true then lexL r (at_ + 1)
    else if _h : (first (c :: r)).e = 0 ∧ 0 < (first (c :: r)).s then
      let x := lexL ((c :: r).drop (first (c :: r)).s) (at_ + (first (c :: r)).s)
      if x.e = 0 then ⟨(first (c :: r)).t.at_ at_ :: x.ts, x.p, 0⟩ else ⟨[], x.p, x.e⟩
    else ⟨[], at_, (first (c :: r)).e⟩
  termination_by l.length
  decreasing_by all_goals (simp only [List.length_drop, List.length_cons]; omega)

/-! ### What a token is -/
theorem tw_len (p : UInt8 → Bool) : ∀ l : List UInt8, (l.takeWhile p).length ≤ l.length
  | [] => Nat.le_refl _
  | c :: l => by
    rw [List.takeWhile_cons]; split
    · have := tw_len p l; simp; exact this
    · simp
theorem tw_pos {p : UInt8 → Bool} {c : UInt8} {l : List UInt8} (h : p c = true) : 0 < ((c :: l).takeWhile p).length := by rw [List.takeWhile_cons, if_pos h]; simp
theorem ofW_let {c : UInt8} (h : letB c = true) : ofW c = true := by simp [ofW, h]
theorem textR_len : ∀ (l x : List UInt8) (n : Nat), textR l = some (x, n) → 0 < n ∧ n ≤ l.length
  | [], x, n, h => by cases h
  | [c], x, n, h => by
    by_cases hc : c = 39
    · subst hc; rw [textR_q0] at h; simp at h; obtain ⟨_, rfl⟩ := h; simp
    · by_cases hb : c.toNat < 32 ∨ 126 < c.toNat
      · rw [textR_bad hc hb] at h; cases h
      · rw [textR_o hc hb] at h; cases h
  | c :: d :: r, x, n, h => by
    by_cases hc : c = 39
    · subst hc
      by_cases hd : d = 39
      · subst hd
        rw [textR_q2] at h
        obtain ⟨⟨y, m⟩, hy, e⟩ := Option.map_eq_some_iff.1 h
        have := textR_len r y m hy
        simp at e; obtain ⟨_, rfl⟩ := e; simp; omega
      · rw [textR_q1 hd] at h; simp at h; obtain ⟨_, rfl⟩ := h; simp
    · by_cases hb : c.toNat < 32 ∨ 126 < c.toNat
      · rw [textR_bad hc hb] at h; cases h
      · rw [textR_o hc hb] at h
        obtain ⟨⟨y, m⟩, hy, e⟩ := Option.map_eq_some_iff.1 h
        have := textR_len (d :: r) y m hy
        simp at e this; obtain ⟨_, rfl⟩ := e; simp; omega
theorem sg2_len {l : List UInt8} (h : sg2 l = true) : l.length = 2 := by
  obtain ⟨x, hx, e⟩ := List.any_eq_true.1 h
  have e := beq_iff_eq.1 e; subst e
  have : ∀ x ∈ pairs, x.length = 2 := by decide
  exact this x hx
theorem first_let {c : UInt8} (h : letB c = true) (r : List UInt8) : first (c :: r) = ⟨⟨1, ofL (((c :: r).takeWhile ofW).map low), 0, 0⟩, ((c :: r).takeWhile ofW).length, 0⟩ := by rw [first]; simp only [h, if_true]
theorem not_both {c : UInt8} (h : isDig c = true) : letB c = false := by
  simp only [isDig, Bool.and_eq_true, decide_eq_true_eq] at h
  simp only [letB, Bool.or_eq_false_iff, Bool.and_eq_false_iff, decide_eq_false_iff_not]; omega
theorem first_dig {c : UInt8} (h : isDig c = true) (r : List UInt8) : first (c :: r) = if numV ((c :: r).takeWhile isDig) < 9223372036854775808 then ⟨⟨2, ⟨#[]⟩, (numV ((c :: r).takeWhile isDig) : Nat), 0⟩, ((c :: r).takeWhile isDig).length, 0⟩ else bad 5 := by
  rw [first]; simp only [not_both h, h, if_true, Bool.false_eq_true, if_false]
theorem first_q (r : List UInt8) : first (39 :: r) = txtG (textR r) := rfl
theorem first_sg {c : UInt8} (h1 : letB c = false) (h2 : isDig c = false) (h3 : c ≠ 39) (r : List UInt8) : first (c :: r) = if sg2 ((c :: r).take 2) = true then ⟨⟨4, ofL ((c :: r).take 2), 0, 0⟩, 2, 0⟩ else if sg1 c = true then ⟨⟨4, ofL [c], 0, 0⟩, 1, 0⟩ else bad 3 := by
  rw [first]; simp only [h1, h2, h3, Bool.false_eq_true, if_false]
theorem first_ok {l : List UInt8} (h : (first l).e = 0) : 0 < (first l).s ∧ (first l).s ≤ l.length := by
  cases l with
  | nil => simp [first, bad] at h
  | cons c r =>
    unfold first at h ⊢
    simp only at h ⊢
    split
    · rename_i h1; exact ⟨tw_pos (ofW_let h1), tw_len _ _⟩
    · rename_i h1
      rw [if_neg h1] at h
      split
      · rename_i h2
        rw [if_pos h2] at h
        split
        · exact ⟨tw_pos h2, tw_len _ _⟩
        · rename_i h3; rw [if_neg h3] at h; simp [bad] at h
      · rename_i h2
        rw [if_neg h2] at h
        split
        · rename_i h3
          rw [if_pos h3] at h
          cases e : textR r with
          | none => rw [e] at h; cases h
          | some y => obtain ⟨x, n⟩ := y; have := textR_len r x n e; simp [txtG]; omega
        · rename_i h3
          rw [if_neg h3] at h
          split
          · rename_i h4
            have := sg2_len h4
            rw [List.length_take] at this
            exact ⟨by show 0 < 2; omega, by show 2 ≤ _; omega⟩
          · rename_i h4
            rw [if_neg h4] at h
            split
            · exact ⟨by show 0 < 1; omega, by simp⟩
            · rename_i h5; rw [if_neg h5] at h; simp [bad] at h
theorem first_bad {l : List UInt8} (h : (first l).e ≠ 0) : first l = bad (first l).e ∧ ((first l).e = 3 ∨ (first l).e = 5) := by
  cases l with
  | nil => exact ⟨rfl, .inl rfl⟩
  | cons c r =>
    unfold first at h ⊢
    simp only at h ⊢
    split
    · rename_i h1; rw [if_pos h1] at h; exact absurd rfl h
    · rename_i h1
      rw [if_neg h1] at h
      split
      · rename_i h2
        rw [if_pos h2] at h
        split
        · rename_i h3; rw [if_pos h3] at h; exact absurd rfl h
        · exact ⟨rfl, .inr rfl⟩
      · rename_i h2
        rw [if_neg h2] at h
        split
        · rename_i h3
          rw [if_pos h3] at h
          cases e : textR r with
          | none => exact ⟨rfl, .inl rfl⟩
          | some y => rw [e] at h; exact absurd rfl h
        · rename_i h3
          rw [if_neg h3] at h
          split
          · rename_i h4; rw [if_pos h4] at h; exact absurd rfl h
          · rename_i h4
            rw [if_neg h4] at h
            split
            · rename_i h5; rw [if_pos h5] at h; exact absurd rfl h
            · exact ⟨rfl, .inl rfl⟩
theorem first_at0 (l : List UInt8) : (first l).t.p = 0 := by
  have ht : ∀ o, (txtG o).t.p = 0 := fun o => by cases o <;> rfl
  unfold first
  split
  · rfl
  · repeat (first | rfl | exact ht _ | split)

/-! ### All tokens -/
theorem lexL_nil (a : Nat) : lexL [] a = ⟨[], a, 0⟩ := by rw [lexL]
theorem lexL_blk {c : UInt8} {r : List UInt8} (h : blk c = true) (a : Nat) : lexL (c :: r) a = lexL r (a + 1) := by rw [lexL, if_pos h]
theorem lexL_bad {c : UInt8} {r : List UInt8} (h : blk c = false) (he : (first (c :: r)).e ≠ 0) (a : Nat) : lexL (c :: r) a = ⟨[], a, (first (c :: r)).e⟩ := by
  rw [lexL, if_neg (by rw [h]; decide), dif_neg (fun x => he x.1)]
theorem lexL_tok {c : UInt8} {r : List UInt8} (h : blk c = false) (he : (first (c :: r)).e = 0) (a : Nat) :
    lexL (c :: r) a = if (lexL ((c :: r).drop (first (c :: r)).s) (a + (first (c :: r)).s)).e = 0 then ⟨(first (c :: r)).t.at_ a :: (lexL ((c :: r).drop (first (c :: r)).s) (a + (first (c :: r)).s)).ts, (lexL ((c :: r).drop (first (c :: r)).s) (a + (first (c :: r)).s)).p, 0⟩
      else ⟨[], (lexL ((c :: r).drop (first (c :: r)).s) (a + (first (c :: r)).s)).p, (lexL ((c :: r).drop (first (c :: r)).s) (a + (first (c :: r)).s)).e⟩ := by
  rw [lexL, if_neg (by rw [h]; decide), dif_pos ⟨he, (first_ok he).1⟩]
/-- What is read, and what then comes. -/
def joinX (ts : List Tk) (x : Lxd) : Lxd := if x.e = 0 then ⟨ts ++ x.ts, x.p, 0⟩ else ⟨[], x.p, x.e⟩
theorem lexL_none (l : List UInt8) (a : Nat) (h : (lexL l a).e ≠ 0) : (lexL l a).ts = [] := by
  induction hn : l.length using Nat.strongRecOn generalizing l a with
  | _ n ih =>
    subst hn
    cases l with
    | nil => rw [lexL_nil]
    | cons c r =>
      cases hb : blk c with
      | true => rw [lexL_blk hb] at h ⊢; exact ih _ (by simp) _ _ h rfl
      | false =>
        by_cases he : (first (c :: r)).e = 0
        · rw [lexL_tok hb he] at h ⊢
          split
          · rename_i h1; rw [if_pos h1] at h; exact absurd rfl h
          · rfl
        · rw [lexL_bad hb he]
theorem joinX_nil (l : List UInt8) (a : Nat) : joinX [] (lexL l a) = lexL l a := by
  unfold joinX
  split
  · rename_i h; rw [← h]; rfl
  · rename_i h; rw [← lexL_none l a h]
theorem joinX_tok (ts : List Tk) {c : UInt8} {r : List UInt8} (h : blk c = false) (he : (first (c :: r)).e = 0) (a : Nat) :
    joinX ts (lexL (c :: r) a) = joinX (ts ++ [(first (c :: r)).t.at_ a]) (lexL ((c :: r).drop (first (c :: r)).s) (a + (first (c :: r)).s)) := by
  rw [lexL_tok h he]
  generalize lexL ((c :: r).drop (first (c :: r)).s) (a + (first (c :: r)).s) = x
  unfold joinX
  by_cases h1 : x.e = 0
  · rw [if_pos h1, if_pos rfl, if_pos h1]; simp
  · rw [if_neg h1, if_neg h1, if_neg h1]
/-- Blanks are passed by. -/
theorem lexL_skip : ∀ (l : List UInt8) (a : Nat), lexL l a = lexL (l.drop (l.takeWhile blk).length) (a + (l.takeWhile blk).length)
  | [], a => rfl
  | c :: l, a => by
    cases hb : blk c with
    | true =>
      rw [lexL_blk hb, lexL_skip l (a + 1), List.takeWhile_cons, if_pos hb]
      simp only [List.length_cons, List.drop_succ_cons]
      congr 1; omega
    | false => rw [List.takeWhile_cons, if_neg (by rw [hb]; decide)]; rfl

/-! ### Signs, and where a text ends, as the program looks for them -/
def allSg : List (List UInt8) := [[60, 62], [60, 61], [62, 61], [124, 124], [40], [41], [44], [42], [43], [45], [47], [37], [61], [60], [62]]
def sgB (l : List UInt8) : Bool := allSg.any fun x => x == l
theorem sgB_two (c d : UInt8) : sgB [c, d] = sg2 [c, d] := by
  simp only [sgB, sg2, allSg, pairs, List.any_cons, List.any_nil, Bool.or_false]
  have h : ∀ x : UInt8, ([x] == [c, d]) = false := fun x => by simp
  simp only [h, Bool.or_false]
theorem sgB_one (c : UInt8) : sgB [c] = sg1 c := by
  simp only [sgB, sg1, allSg, ones, List.any_cons, List.any_nil, Bool.or_false]
  have h : ∀ x y : UInt8, ([x, y] == [c]) = false := fun x y => by simp
  have h2 : ∀ x : UInt8, ([x] == [c]) = (x == c) := fun x => by simp
  simp only [h, h2, Bool.false_or]
def lenAt (i : Nat) (l : List UInt8) : Nat := match textR l with
  | none => 0
  | some x => i + x.2
theorem lenAt_nil (i : Nat) : lenAt i [] = 0 := rfl
theorem lenAt_bad {c : UInt8} (hb : c.toNat < 32 ∨ 126 < c.toNat) (i : Nat) (l : List UInt8) : lenAt i (c :: l) = 0 := by
  have hc : c ≠ 39 := by intro e; subst e; revert hb; decide
  rw [lenAt, textR_bad hc hb]
theorem lenAt_two (i : Nat) (r : List UInt8) : lenAt i (39 :: 39 :: r) = lenAt (i + 2) r := by
  rw [lenAt, textR_q2, lenAt]
  cases textR r with
  | none => rfl
  | some x => show i + (x.2 + 2) = i + 2 + x.2; omega
theorem lenAt_end {l : List UInt8} (h : ∀ r, l ≠ 39 :: r) (i : Nat) : lenAt i (39 :: l) = i + 1 := by
  cases l with
  | nil => rfl
  | cons d r =>
    have hd : d ≠ 39 := by intro e; subst e; exact h r rfl
    rw [lenAt, textR_q1 hd]
theorem lenAt_step {c : UInt8} (hc : c ≠ 39) (hb : ¬ (c.toNat < 32 ∨ 126 < c.toNat)) (i : Nat) (l : List UInt8) : lenAt i (c :: l) = lenAt (i + 1) l := by
  rw [lenAt, textR_o hc hb, lenAt]
  cases textR l with
  | none => rfl
  | some x => show i + (x.2 + 1) = i + 1 + x.2; omega
/-- What stands between the quotes. -/
theorem textR_take : ∀ (l x : List UInt8) (n : Nat), textR l = some (x, n) → l.take n = dbl x ++ [39]
  | [], x, n, h => by cases h
  | [c], x, n, h => by
    by_cases hc : c = 39
    · subst hc; rw [textR_q0] at h; simp at h; obtain ⟨rfl, rfl⟩ := h; rfl
    · by_cases hb : c.toNat < 32 ∨ 126 < c.toNat
      · rw [textR_bad hc hb] at h; cases h
      · rw [textR_o hc hb] at h; cases h
  | c :: d :: r, x, n, h => by
    by_cases hc : c = 39
    · subst hc
      by_cases hd : d = 39
      · subst hd
        rw [textR_q2] at h
        obtain ⟨⟨y, m⟩, hy, e⟩ := Option.map_eq_some_iff.1 h
        have := textR_take r y m hy
        simp at e; obtain ⟨rfl, rfl⟩ := e
        rw [List.take_succ_cons, List.take_succ_cons, this, dbl, if_pos rfl]; rfl
      · rw [textR_q1 hd] at h; simp at h; obtain ⟨rfl, rfl⟩ := h; rfl
    · by_cases hb : c.toNat < 32 ∨ 126 < c.toNat
      · rw [textR_bad hc hb] at h; cases h
      · rw [textR_o hc hb] at h
        obtain ⟨⟨y, m⟩, hy, e⟩ := Option.map_eq_some_iff.1 h
        have := textR_take (d :: r) y m hy
        simp at e; obtain ⟨rfl, rfl⟩ := e
        rw [List.take_succ_cons, this, dbl, if_neg hc]; rfl
theorem textR_inner {l x : List UInt8} {n : Nat} (h : textR l = some (x, n)) : Lib.replaceAll (l.take (n - 1)) [39, 39] [39] = x := by
  have h1 := textR_take l x n h
  have hp := textR_len l x n h
  have h2 : l.take (n - 1) = dbl x := by
    have : l.take (n - 1) = (l.take n).take (n - 1) := by rw [List.take_take]; congr 1; omega
    rw [this, h1]
    have hl : n - 1 = (dbl x).length := by
      have := congrArg List.length h1
      rw [List.length_take, List.length_append] at this
      simp at this; omega
    rw [hl, List.take_left]
  rw [h2, undoubles]

/-! ### Numbers, as both readers read them -/
theorem digU {c : UInt8} (h : isDig c = true) : 48 ≤ c.toNat ∧ c.toNat ≤ 57 := by simpa [isDig] using h
theorem fold_ge : ∀ (l : List UInt8) (n : Nat), n ≤ l.foldl dv n
  | [], n => Nat.le_refl _
  | c :: l, n => by rw [List.foldl_cons]; exact Nat.le_trans (by unfold dv; omega) (fold_ge l (dv n c))
theorem parse_dig : ∀ (l : List UInt8) (n : Nat), (∀ c ∈ l, isDig c = true) → n < 18446744073709551616 → parseUint10 n l = if l.foldl dv n < 18446744073709551616 then .ok (l.foldl dv n) else .range
  | [], n, _, h => by rw [parseUint10, List.foldl_nil, if_pos h]
  | c :: l, n, hl, h => by
    have hc := digU (hl c (by simp))
    rw [parseUint10, if_pos hc, List.foldl_cons]
    have e : dv n c = n * 10 + (c.toNat - 48) := by unfold dv; omega
    have hg := fold_ge l (dv n c)
    by_cases h1 : 1844674407370955162 ≤ n
    · rw [if_pos h1, if_neg (by omega)]
    · rw [if_neg h1]
      by_cases h2 : 18446744073709551616 ≤ n * 10 + (c.toNat - 48)
      · rw [if_pos h2, if_neg (by omega)]
      · rw [if_neg h2, ← e]
        exact parse_dig l (dv n c) (fun d hd => hl d (by simp [hd])) (by omega)
theorem atoi_dig {c : UInt8} {l : List UInt8} (hl : ∀ d ∈ c :: l, isDig d = true) : atoiAll (c :: l) = if numV (c :: l) < 9223372036854775808 then .ok (numV (c :: l) : Nat) else .range := by
  have hc := digU (hl c (by simp))
  rw [atoiAll_plain c l (by omega) (by omega), parseMag, if_neg (by simp), parse_dig _ 0 hl (by omega)]
  show signless (if numV (c :: l) < 18446744073709551616 then .ok (numV (c :: l)) else .range) = _
  by_cases h : numV (c :: l) < 9223372036854775808
  · rw [if_pos h, if_pos (by omega), signless, if_neg (by omega)]
  · rw [if_neg h]
    by_cases h2 : numV (c :: l) < 18446744073709551616
    · rw [if_pos h2, signless, if_pos (by omega)]
    · rw [if_neg h2]; rfl
theorem lowerB_low (c : UInt8) : lowerB c = low c := by
  unfold lowerB low isUpperB
  by_cases h : 65 ≤ c.toNat ∧ c.toNat ≤ 90
  · rw [if_pos h, if_pos]
    simp [UInt8.le_iff_toNat_le]; exact h
  · rw [if_neg h, if_neg]
    simp [UInt8.le_iff_toNat_le]; omega
theorem lower_low (l : List UInt8) : toLowerA l = l.map low := List.map_congr_left fun c _ => lowerB_low c
end Go.Proofs.YtfmpnakonffkcaaGreatDoor
