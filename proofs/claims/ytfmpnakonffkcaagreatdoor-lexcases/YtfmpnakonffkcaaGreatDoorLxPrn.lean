/- Tokens as a text, plainly: what is printed is read as it was; blanks laid between change nothing but places. No program is walked in it. -/
import Derived.Test.YtfmpnakonffkcaaGreatDoorLxMath
namespace Go.Proofs.YtfmpnakonffkcaaGreatDoor
open Go.Lib

/-! ### What a first token hangs on -/
theorem tw_all {p : UInt8 → Bool} : ∀ {x : List UInt8}, (∀ c ∈ x, p c = true) → ∀ y : List UInt8, (∀ c r, y = c :: r → p c = false) → (x ++ y).takeWhile p = x
  | [], _, y, hy => by
    cases y with
    | nil => rfl
    | cons c r => rw [List.nil_append, List.takeWhile_cons, hy c r rfl]; rfl
  | c :: x, hx, y, hy => by
    rw [List.cons_append, List.takeWhile_cons, hx c (by simp)]
    simp only [if_true]
    rw [tw_all (fun d hd => hx d (by simp [hd])) y hy]
theorem tw_split {p : UInt8 → Bool} : ∀ {x y : List UInt8}, ((x ++ y).takeWhile p).length = x.length → (∀ c ∈ x, p c = true) ∧ (∀ c r, y = c :: r → p c = false)
  | [], y, h => by
    refine ⟨fun c hc => (List.not_mem_nil hc).elim, fun c r e => ?_⟩
    subst e
    cases hc : p c with
    | false => rfl
    | true => rw [List.nil_append, List.takeWhile_cons, hc] at h; simp at h
  | c :: x, y, h => by
    rw [List.cons_append, List.takeWhile_cons] at h
    cases hc : p c with
    | false => rw [hc] at h; simp at h
    | true =>
      rw [hc] at h
      simp only [if_true, List.length_cons, Nat.add_right_cancel_iff] at h
      obtain ⟨h1, h2⟩ := tw_split h
      refine ⟨fun d hd => ?_, h2⟩
      rcases List.mem_cons.1 hd with rfl | hd
      · exact hc
      · exact h1 d hd
theorem textR_split : ∀ (x y v : List UInt8), textR (x ++ y) = some (v, x.length) → (∀ c r, y = c :: r → c ≠ 39) ∧ ∀ y' : List UInt8, (∀ c r, y' = c :: r → c ≠ 39) → textR (x ++ y') = some (v, x.length)
  | [], y, v, h => by have := textR_len y v 0 h; omega
  | [c], y, v, h => by
    by_cases hc : c = 39
    · subst hc
      cases y with
      | nil =>
        rw [List.append_nil, textR_q0] at h
        simp at h; subst h
        refine ⟨fun c r e => (List.cons_ne_nil _ _ e.symm).elim, fun y' hy => ?_⟩
        cases y' with
        | nil => rfl
        | cons d r => exact textR_q1 (hy d r rfl) r
      | cons d r =>
        by_cases hd : d = 39
        · subst hd
          rw [List.singleton_append, textR_q2] at h
          obtain ⟨⟨z, m⟩, _, e⟩ := Option.map_eq_some_iff.1 h
          simp at e
        · rw [List.singleton_append, textR_q1 hd] at h
          simp at h; subst h
          refine ⟨fun c r e => ?_, fun y' hy => ?_⟩
          · simp only [List.cons.injEq] at e; rw [← e.1]; exact hd
          · cases y' with
            | nil => rfl
            | cons d r => exact textR_q1 (hy d r rfl) r
    · by_cases hb : c.toNat < 32 ∨ 126 < c.toNat
      · rw [List.singleton_append, textR_bad hc hb] at h; cases h
      · rw [List.singleton_append, textR_o hc hb] at h
        obtain ⟨⟨z, m⟩, hz, e⟩ := Option.map_eq_some_iff.1 h
        have := textR_len _ _ _ hz
        simp at e; omega
  | c :: d :: x, y, v, h => by
    by_cases hc : c = 39
    · subst hc
      by_cases hd : d = 39
      · subst hd
        rw [List.cons_append, List.cons_append, textR_q2] at h
        obtain ⟨⟨z, m⟩, hz, e⟩ := Option.map_eq_some_iff.1 h
        simp at e
        obtain ⟨rfl, e⟩ := e
        have e : m = x.length := by omega
        subst e
        obtain ⟨h1, h2⟩ := textR_split x y z hz
        refine ⟨h1, fun y' hy => ?_⟩
        rw [List.cons_append, List.cons_append, textR_q2, h2 y' hy]; rfl
      · rw [List.cons_append, List.cons_append, textR_q1 hd] at h
        simp at h
    · by_cases hb : c.toNat < 32 ∨ 126 < c.toNat
      · rw [List.cons_append, textR_bad hc hb] at h; cases h
      · rw [List.cons_append, textR_o hc hb] at h
        obtain ⟨⟨z, m⟩, hz, e⟩ := Option.map_eq_some_iff.1 h
        simp only [Prod.mk.injEq, List.length_cons] at e
        obtain ⟨rfl, e⟩ := e
        have e : m = (d :: x).length := by simp only [List.length_cons]; omega
        subst e
        obtain ⟨h1, h2⟩ := textR_split (d :: x) y z hz
        refine ⟨h1, fun y' hy => ?_⟩
        rw [List.cons_append, textR_o hc hb, h2 y' hy]; rfl
theorem blk_facts {c : UInt8} (h : blk c = true) : ofW c = false ∧ isDig c = false ∧ c ≠ 39 ∧ (∀ d, sg2 [d, c] = false) := by
  have h1 : c.toNat = 32 ∨ c.toNat = 9 ∨ c.toNat = 10 ∨ c.toNat = 13 := by
    simp only [blk, Bool.or_eq_true, decide_eq_true_eq] at h; omega
  have hd : isDig c = false := by simp only [isDig, Bool.and_eq_false_iff, decide_eq_false_iff_not]; omega
  refine ⟨?_, hd, ?_, fun d => ?_⟩
  · simp only [ofW, letB, hd, Bool.or_eq_false_iff, Bool.and_eq_false_iff, decide_eq_false_iff_not]
    refine ⟨⟨⟨?_, ?_⟩, trivial⟩, ?_⟩ <;> omega
  · intro e; subst e; revert h1; decide
  · have k : ∀ y : UInt8, y.toNat = 62 ∨ y.toNat = 61 ∨ y.toNat = 124 → y ≠ c := fun y hy e => by subst e; omega
    have k1 := k 62 (.inl rfl)
    have k2 := k 61 (.inr (.inl rfl))
    have k3 := k 124 (.inr (.inr rfl))
    simp [sg2, pairs, k1, k2, k3]
/-- What may follow a token: nothing, a blank, or what begins as what followed it. -/
def Nxt (y y' : List UInt8) : Prop := ∀ c r, y' = c :: r → blk c = true ∨ ∃ r', y = c :: r'
theorem first_next {x y y' : List UInt8} {t : Tk} (h : first (x ++ y) = ⟨t, x.length, 0⟩) (hn : Nxt y y') : first (x ++ y') = ⟨t, x.length, 0⟩ := by
  have h0 := first_ok (l := x ++ y) (by rw [h])
  rw [h] at h0
  cases x with
  | nil => simp at h0
  | cons c x =>
    have stop : ∀ p : UInt8 → Bool, (∀ c, blk c = true → p c = false) → (∀ c r, y = c :: r → p c = false) → ∀ c r, y' = c :: r → p c = false := by
      intro p hp hy d r e
      rcases hn d r e with hb | ⟨r', e'⟩
      · exact hp d hb
      · exact hy d r' e'
    cases h1 : letB c with
    | true =>
      rw [List.cons_append, first_let h1] at h ⊢
      simp only [Got.mk.injEq] at h
      obtain ⟨e1, e2, _⟩ := h
      rw [← List.cons_append] at e1 e2 ⊢
      obtain ⟨a1, a2⟩ := tw_split e2
      rw [tw_all a1 y a2] at e1
      rw [tw_all a1 y' (stop ofW (fun c hc => (blk_facts hc).1) a2), e1]
    | false =>
      cases h2 : isDig c with
      | true =>
        rw [List.cons_append, first_dig h2] at h ⊢
        split at h
        · rename_i hv
          simp only [Got.mk.injEq] at h
          obtain ⟨e1, e2, _⟩ := h
          rw [← List.cons_append] at e1 e2 hv ⊢
          obtain ⟨a1, a2⟩ := tw_split e2
          rw [tw_all a1 y a2] at e1 hv
          rw [tw_all a1 y' (stop isDig (fun c hc => (blk_facts hc).2.1) a2), if_pos hv, e1]
        · simp [bad] at h
      | false =>
        by_cases hc : c = 39
        · subst hc
          rw [List.cons_append, first_q] at h ⊢
          cases e : textR (x ++ y) with
          | none => rw [e] at h; simp [txtG, bad] at h
          | some z =>
            obtain ⟨v, n⟩ := z
            rw [e] at h
            simp only [txtG, Got.mk.injEq, List.length_cons, Nat.add_right_cancel_iff] at h
            obtain ⟨e1, rfl, _⟩ := h
            obtain ⟨a1, a2⟩ := textR_split x y v e
            have a3 : ∀ c r, y' = c :: r → c ≠ 39 := by
              intro d r e'
              rcases hn d r e' with hb | ⟨r', e''⟩
              · exact (blk_facts hb).2.2.1
              · exact a1 d r' e''
            rw [a2 y' a3, ← e1]; rfl
        · rw [List.cons_append, first_sg h1 h2 hc] at h ⊢
          cases x with
          | nil =>
            simp only [List.nil_append] at h ⊢
            have k : sg2 ((c :: y).take 2) = false := by
              cases hs : sg2 ((c :: y).take 2) with
              | false => rfl
              | true => rw [if_pos hs] at h; simp at h
            have k' : sg2 ((c :: y').take 2) = false := by
              cases y' with
              | nil => exact (by simp [sg2, pairs])
              | cons d r =>
                show sg2 [c, d] = false
                rcases hn d r rfl with hb | ⟨r', e'⟩
                · exact (blk_facts hb).2.2.2 c
                · rw [e'] at k; exact k
            rw [k] at h
            rw [k']
            exact h
          | cons d x =>
            have e2 : ∀ z : List UInt8, (c :: (d :: x ++ z)).take 2 = [c, d] := fun _ => rfl
            rw [e2] at h ⊢
            exact h
/-- A token that stands alone may be followed by a blank. -/
theorem nxt_blk {y : List UInt8} {c : UInt8} {r : List UInt8} (h : blk c = true) : Nxt y (c :: r) := fun d r' e => by simp only [List.cons.injEq] at e; rw [← e.1]; exact .inl h
theorem nxt_nil (y : List UInt8) : Nxt y [] := fun d r' e => by cases e
theorem nxt_head {y y' : List UInt8} (h : ∀ c r, y' = c :: r → ∃ r', y = c :: r') : Nxt y y' := fun c r e => .inr (h c r e)

/-! ### A token's text -/
def toldL (t : Tk) : List UInt8 := if t.k = 1 ∨ t.k = 4 then lst t.tx else if t.k = 2 then itoa t.n else if t.k = 3 then 39 :: (dbl (lst t.tx) ++ [39]) else []
/-- A list that can be a token. -/
def CanB (t : Tk) : Prop := first (toldL t) = ⟨t.at0, (toldL t).length, 0⟩
theorem low_facts : ∀ n : Fin 256, (ofW (low (UInt8.ofNat n.val)) == ofW (UInt8.ofNat n.val) && (letB (low (UInt8.ofNat n.val)) == letB (UInt8.ofNat n.val)) && (low (low (UInt8.ofNat n.val)) == low (UInt8.ofNat n.val))) = true := by decide +kernel
theorem low_ok (c : UInt8) : ofW (low c) = ofW c ∧ letB (low c) = letB c ∧ low (low c) = low c := by
  have := low_facts ⟨c.toNat, c.toNat_lt⟩
  simp only [UInt8.ofNat_toNat, Bool.and_eq_true, beq_iff_eq] at this
  exact ⟨this.1.1, this.1.2, this.2⟩
theorem dv_dec (u : Nat) : ∀ r, (decDigits u ++ r).foldl dv 0 = r.foldl dv u := by
  induction u using Nat.strongRecOn with
  | _ u ih =>
    intro r
    by_cases h : u < 10
    · rw [dec_last h, List.singleton_append, List.foldl_cons]
      congr 1
      rw [dv, dig_toNat h]; omega
    · rw [dec_step h, List.append_assoc, ih (u / 10) (by omega) _, List.singleton_append, List.foldl_cons]
      congr 1
      rw [dv, dig_toNat (by omega)]; omega
theorem numV_dec (u : Nat) : numV (decDigits u) = u := by have := dv_dec u []; rw [List.append_nil] at this; exact this
theorem tw_mem {p : UInt8 → Bool} : ∀ {l : List UInt8} {c : UInt8}, c ∈ l.takeWhile p → p c = true
  | d :: l, c, h => by
    rw [List.takeWhile_cons] at h
    cases hd : p d with
    | false => rw [hd] at h; simp at h
    | true =>
      rw [hd] at h
      rcases List.mem_cons.1 h with rfl | h
      · exact hd
      · exact tw_mem h
theorem tw_self {p : UInt8 → Bool} {x : List UInt8} (h : ∀ c ∈ x, p c = true) : x.takeWhile p = x := by
  have := tw_all h [] (fun c r e => by cases e)
  rwa [List.append_nil] at this
theorem textR_dbl : ∀ x : List UInt8, (∀ c ∈ x, 32 ≤ c.toNat ∧ c.toNat ≤ 126) → textR (dbl x ++ [39]) = some (x, (dbl x ++ [39]).length)
  | [], _ => rfl
  | c :: x, h => by
    have ih := textR_dbl x (fun d hd => h d (by simp [hd]))
    have hc := h c (by simp)
    by_cases e : c = 39
    · subst e
      rw [dbl, if_pos rfl, List.cons_append, List.cons_append, textR_q2, ih]; simp
    · rw [dbl, if_neg e, List.cons_append, textR_o e (by omega), ih]; simp
theorem textR_mem : ∀ (l x : List UInt8) (n : Nat), textR l = some (x, n) → ∀ c ∈ x, 32 ≤ c.toNat ∧ c.toNat ≤ 126
  | [], x, n, h => by cases h
  | [c], x, n, h => by
    by_cases hc : c = 39
    · subst hc; rw [textR_q0] at h; simp at h; obtain ⟨rfl, _⟩ := h; simp
    · by_cases hb : c.toNat < 32 ∨ 126 < c.toNat
      · rw [textR_bad hc hb] at h; cases h
      · rw [textR_o hc hb] at h; cases h
  | c :: d :: r, x, n, h => by
    by_cases hc : c = 39
    · subst hc
      by_cases hd : d = 39
      · subst hd
        rw [textR_q2] at h
        obtain ⟨⟨y, m⟩, hy, e⟩ := Option.map_eq_some_iff.1 h
        have := textR_mem r y m hy
        simp at e; obtain ⟨rfl, _⟩ := e
        intro c hc
        rcases List.mem_cons.1 hc with rfl | hc
        · exact ⟨by decide, by decide⟩
        · exact this c hc
      · rw [textR_q1 hd] at h; simp at h; obtain ⟨rfl, _⟩ := h; simp
    · by_cases hb : c.toNat < 32 ∨ 126 < c.toNat
      · rw [textR_bad hc hb] at h; cases h
      · rw [textR_o hc hb] at h
        obtain ⟨⟨y, m⟩, hy, e⟩ := Option.map_eq_some_iff.1 h
        have := textR_mem (d :: r) y m hy
        simp at e; obtain ⟨rfl, _⟩ := e
        intro x hx
        rcases List.mem_cons.1 hx with rfl | hx
        · omega
        · exact this x hx
theorem sg2_told {l : List UInt8} (h : sg2 l = true) : first l = ⟨⟨4, ofL l, 0, 0⟩, l.length, 0⟩ := by
  obtain ⟨x, hx, e⟩ := List.any_eq_true.1 h
  have e := beq_iff_eq.1 e; subst e
  simp only [pairs, List.mem_cons, List.not_mem_nil, or_false] at hx
  rcases hx with rfl | rfl | rfl | rfl <;> rfl
theorem sg1_told {c : UInt8} (h : sg1 c = true) : first [c] = ⟨⟨4, ofL [c], 0, 0⟩, 1, 0⟩ := by
  obtain ⟨x, hx, e⟩ := List.any_eq_true.1 h
  have e := beq_iff_eq.1 e; subst e
  simp only [ones, List.mem_cons, List.not_mem_nil, or_false] at hx
  rcases hx with rfl | rfl | rfl | rfl | rfl | rfl | rfl | rfl | rfl | rfl | rfl <;> rfl
/-- What has been read can be a token. -/
theorem can_first {l : List UInt8} (h : (first l).e = 0) : CanB (first l).t := by
  cases l with
  | nil => simp [first, bad] at h
  | cons c r =>
    cases h1 : letB c with
    | true =>
      rw [first_let h1]
      generalize hx : (c :: r).takeWhile ofW = x
      have hall : ∀ d ∈ x.map low, ofW d = true := by
        intro d hd
        obtain ⟨e, he, rfl⟩ := List.mem_map.1 hd
        rw [(low_ok e).1]; subst hx; exact tw_mem he
      have hx2 : ∃ r', x = c :: r' := by
        rw [List.takeWhile_cons, ofW_let h1] at hx
        exact ⟨_, hx.symm⟩
      obtain ⟨r', rfl⟩ := hx2
      have et : toldL ⟨1, ofL ((c :: r').map low), 0, 0⟩ = (c :: r').map low := rfl
      rw [CanB, et]
      have e2 : first ((c :: r').map low) = ⟨⟨1, ofL ((((c :: r').map low).takeWhile ofW).map low), 0, 0⟩, (((c :: r').map low).takeWhile ofW).length, 0⟩ := by
        rw [List.map_cons]; exact first_let (by rw [(low_ok c).2.1]; exact h1) _
      rw [e2, tw_self hall]
      have e3 : ((c :: r').map low).map low = (c :: r').map low := by
        rw [List.map_map]; exact List.map_congr_left fun d _ => (low_ok d).2.2
      rw [e3]; rfl
    | false =>
      cases h2 : isDig c with
      | true =>
        rw [first_dig h2] at h ⊢
        split at h
        · rename_i hv
          rw [if_pos hv]
          generalize numV ((c :: r).takeWhile isDig) = u at *
          have et : toldL ⟨2, ⟨#[]⟩, (u : Nat), 0⟩ = decDigits u := by
            show itoa (u : Int) = _
            unfold itoa; rw [if_neg (by omega)]; simp
          show CanB ⟨2, ⟨#[]⟩, (u : Nat), 0⟩
          rw [CanB, et]
          obtain ⟨d, r', e, hd⟩ := dec_cons u
          have e1 : first (decDigits u) = if numV ((decDigits u).takeWhile isDig) < 9223372036854775808 then ⟨⟨2, ⟨#[]⟩, (numV ((decDigits u).takeWhile isDig) : Nat), 0⟩, ((decDigits u).takeWhile isDig).length, 0⟩ else bad 5 := by
            rw [e]; exact first_dig hd r'
          rw [e1, tw_self (dec_all u), numV_dec, if_pos hv]; rfl
        · simp [bad] at h
      | false =>
        by_cases hc : c = 39
        · subst hc
          rw [first_q] at h ⊢
          cases e : textR r with
          | none => rw [e] at h; simp [txtG, bad] at h
          | some z =>
            obtain ⟨x, n⟩ := z
            have hm := textR_mem r x n e
            have hd := textR_dbl x hm
            show CanB ⟨3, ofL x, 0, 0⟩
            have et : toldL ⟨3, ofL x, 0, 0⟩ = 39 :: (dbl x ++ [39]) := rfl
            rw [CanB, et, first_q, hd]; rfl
        · rw [first_sg h1 h2 hc] at h ⊢
          split at h
          · rename_i h4
            rw [if_pos h4]
            exact sg2_told h4
          · rename_i h4
            rw [if_neg h4]
            split at h
            · rename_i h5
              rw [if_pos h5]
              exact sg1_told h5
            · simp [bad] at h

/-! ### All tokens -/
def joinB : List Tk → List UInt8
  | [] => []
  | [t] => toldL t
  | t :: u :: l => toldL t ++ 32 :: joinB (u :: l)
def at0s (l : List Tk) : List Tk := l.map Tk.at0
theorem first_pos {x : List UInt8} {t : Tk} (h : first x = ⟨t, x.length, 0⟩) : 0 < x.length := by have := (first_ok (l := x) (by rw [h])).1; rw [h] at this; exact this
/-- A token at the begin, and then what begins as it may. -/
theorem lex_front {x y : List UInt8} {t : Tk} (h : first (x ++ y) = ⟨t, x.length, 0⟩) (hx : ∀ c r, x = c :: r → blk c = false) (a : Nat) (he : (lexL y (a + x.length)).e = 0) :
    (lexL (x ++ y) a).e = 0 ∧ (lexL (x ++ y) a).ts = t.at_ a :: (lexL y (a + x.length)).ts := by
  have h0 := (first_ok (l := x ++ y) (by rw [h])).1
  rw [h] at h0
  cases x with
  | nil => simp at h0
  | cons c r =>
    have hb := hx c r rfl
    rw [List.cons_append] at h ⊢
    rw [lexL_tok hb (by rw [h]), h]
    simp only
    rw [← List.cons_append, List.drop_left, if_pos he]
    exact ⟨rfl, rfl⟩
theorem first_blk {c : UInt8} {r : List UInt8} (h : blk c = true) : (first (c :: r)).e ≠ 0 := by
  obtain ⟨h1, h2, h3, h4⟩ := blk_facts h
  have hl : letB c = false := by
    cases e : letB c with
    | false => rfl
    | true => rw [ofW_let e] at h1; cases h1
  have hs : sg1 c = false := by
    have hn : c.toNat = 32 ∨ c.toNat = 9 ∨ c.toNat = 10 ∨ c.toNat = 13 := by
      simp only [blk, Bool.or_eq_true, decide_eq_true_eq] at h; omega
    cases e : sg1 c with
    | false => rfl
    | true =>
      obtain ⟨x, hx, e⟩ := List.any_eq_true.1 e
      have e := beq_iff_eq.1 e; subst e
      have all : ∀ x ∈ ones, ¬ (x.toNat = 32 ∨ x.toNat = 9 ∨ x.toNat = 10 ∨ x.toNat = 13) := by decide
      exact absurd hn (all x hx)
  have hs2 : sg2 ((c :: r).take 2) = false := by
    cases e : sg2 ((c :: r).take 2) with
    | false => rfl
    | true =>
      obtain ⟨x, hx, e⟩ := List.any_eq_true.1 e
      have e := beq_iff_eq.1 e
      have all : ∀ x ∈ pairs, ∀ c r, x = c :: r → blk c = false := by
        intro x hx c r e
        simp only [pairs, List.mem_cons, List.not_mem_nil, or_false] at hx
        rcases hx with rfl | rfl | rfl | rfl <;> (simp at e; obtain ⟨rfl, _⟩ := e; decide)
      have := all x hx c (r.take 1) (by rw [e]; rfl)
      rw [this] at h; cases h
  rw [first_sg hl h2 h3, hs2, hs]; simp [bad]
theorem front_blk {x y : List UInt8} {t : Tk} (h : first (x ++ y) = ⟨t, x.length, 0⟩) : ∀ c r, x = c :: r → blk c = false := by
  intro c r e
  subst e
  cases hb : blk c with
  | false => rfl
  | true => exact absurd (by rw [List.cons_append] at h; rw [h]) (first_blk (r := r ++ y) hb)
/-- What is printed is read as it was. -/
theorem lex_join : ∀ (l : List Tk) (a : Nat), (∀ t ∈ l, CanB t) → (lexL (joinB l) a).e = 0 ∧ at0s (lexL (joinB l) a).ts = at0s l
  | [], a, _ => by rw [joinB, lexL_nil]; exact ⟨rfl, rfl⟩
  | [t], a, h => by
    have ht : first (toldL t) = _ := h t (by simp)
    have h2 : first (toldL t ++ []) = ⟨t.at0, (toldL t).length, 0⟩ := by rw [List.append_nil]; exact ht
    obtain ⟨e1, e2⟩ := lex_front h2 (front_blk h2) a (by rw [lexL_nil])
    rw [List.append_nil] at e1 e2
    rw [joinB, e2, lexL_nil]
    exact ⟨e1, rfl⟩
  | t :: u :: l, a, h => by
    have ht : first (toldL t) = _ := h t (by simp)
    have h2 : first (toldL t ++ 32 :: joinB (u :: l)) = ⟨t.at0, (toldL t).length, 0⟩ := first_next (y := []) (by rw [List.append_nil]; exact ht) (nxt_blk (by decide))
    obtain ⟨i1, i2⟩ := lex_join (u :: l) (a + (toldL t).length + 1) (fun x hx => h x (List.mem_cons_of_mem _ hx))
    have hb : lexL (32 :: joinB (u :: l)) (a + (toldL t).length) = lexL (joinB (u :: l)) (a + (toldL t).length + 1) := lexL_blk (by decide) _
    obtain ⟨e1, e2⟩ := lex_front h2 (front_blk h2) a (by rw [hb]; exact i1)
    rw [joinB]
    refine ⟨e1, ?_⟩
    rw [e2, hb, at0s, List.map_cons]
    show _ :: at0s _ = _
    rw [i2]; rfl
/-- The tokens of a text can be tokens. -/
theorem lex_can (l : List UInt8) (a : Nat) : ∀ t ∈ (lexL l a).ts, CanB t := by
  induction hn : l.length using Nat.strongRecOn generalizing l a with
  | _ n ih =>
    subst hn
    cases l with
    | nil => rw [lexL_nil]; simp
    | cons c r =>
      cases hb : blk c with
      | true => rw [lexL_blk hb]; exact ih _ (by simp) _ _ rfl
      | false =>
        by_cases he : (first (c :: r)).e = 0
        · rw [lexL_tok hb he]
          split
          · intro t ht
            rcases List.mem_cons.1 ht with rfl | ht
            · have := can_first he
              unfold CanB at this ⊢
              exact this
            · exact ih _ (by have := first_ok he; simp only [List.length_drop]; omega) _ _ rfl t ht
          · simp
        · rw [lexL_bad hb he]; simp
end Go.Proofs.YtfmpnakonffkcaaGreatDoor
