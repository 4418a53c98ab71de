/- Blanks laid between the tokens of a text, plainly: they change nothing but places. No program is walked in it. -/
import Derived.Test.YtfmpnakonffkcaaDoorLxPrn
namespace Go.Proofs.YtfmpnakonffkcaaDoor
open Go.Lib

/-- Where a token of a list begins, or else a text ends. -/
def nextP (ts : List Tk) (n : Nat) : Nat := match ts with | [] => n | t :: _ => t.p.toNat
/-- Each token with what follows it, and a blank behind each as long as there are some. -/
def spread (s : List UInt8) : List Tk → List UInt8 → List UInt8
  | [], _ => []
  | t :: ts, bs => (s.take (nextP ts s.length)).drop t.p.toNat ++ (bs.take 1 ++ spread s ts (bs.drop 1))
theorem lexL_end (l : List UInt8) (a : Nat) (h : (lexL l a).e = 0) : (lexL l a).p = a + l.length := by
  induction hn : l.length using Nat.strongRecOn generalizing l a with
  | _ n ih =>
    subst hn
    cases l with
    | nil => rw [lexL_nil]; rfl
    | cons c r =>
      cases hb : blk c with
      | true => rw [lexL_blk hb] at h ⊢; rw [ih _ (by simp) _ _ h rfl, List.length_cons]; omega
      | false =>
        by_cases he : (first (c :: r)).e = 0
        · rw [lexL_tok hb he] at h ⊢
          by_cases h1 : (lexL ((c :: r).drop (first (c :: r)).s) (a + (first (c :: r)).s)).e = 0
          · rw [if_pos h1]
            have hf := first_ok he
            simp only
            rw [ih _ (by simp only [List.length_drop]; omega) _ _ h1 rfl, List.length_drop]
            omega
          · rw [if_neg h1] at h; exact absurd h h1
        · rw [lexL_bad hb he] at h; exact absurd h he
/-- A text from a place on: blanks up to the next token, and where that is. -/
theorem lex_gap (s : List UInt8) (a : Nat) (ha : a ≤ s.length) (h : (lexL (s.drop a) a).e = 0) :
    a ≤ nextP (lexL (s.drop a) a).ts s.length ∧ nextP (lexL (s.drop a) a).ts s.length ≤ s.length ∧ (∀ c ∈ (s.take (nextP (lexL (s.drop a) a).ts s.length)).drop a, blk c = true) ∧
    ∀ t u, (lexL (s.drop a) a).ts = t :: u → 0 ≤ t.p ∧ t.p.toNat < s.length ∧ lexL (s.drop t.p.toNat) t.p.toNat = lexL (s.drop a) a ∧ ∀ c r, s.drop t.p.toNat = c :: r → blk c = false := by
  induction hn : s.length - a using Nat.strongRecOn generalizing a with
  | _ n ih =>
    subst hn
    by_cases hlt : a < s.length
    · obtain ⟨c, hc⟩ : ∃ c, s[a] = c := ⟨_, rfl⟩
      have hd : s.drop a = c :: s.drop (a + 1) := by rw [List.drop_eq_getElem_cons hlt, hc]
      cases hb : blk c with
      | true =>
        have e := lexL_blk (r := s.drop (a + 1)) hb a
        rw [hd, e] at h ⊢
        obtain ⟨i1, i2, i3, i4⟩ := ih (s.length - (a + 1)) (by omega) (a + 1) (by omega) h rfl
        refine ⟨by omega, i2, fun x hx => ?_, i4⟩
        have e2 : (s.take (nextP (lexL (s.drop (a + 1)) (a + 1)).ts s.length)).drop a = c :: (s.take (nextP (lexL (s.drop (a + 1)) (a + 1)).ts s.length)).drop (a + 1) := by
          rw [List.drop_eq_getElem_cons (by rw [List.length_take]; omega), List.getElem_take, hc]
        rw [e2] at hx
        rcases List.mem_cons.1 hx with rfl | hx
        · exact hb
        · exact i3 x hx
      | false =>
        by_cases he : (first (c :: s.drop (a + 1))).e = 0
        · have e := lexL_tok (r := s.drop (a + 1)) hb he a
          have key : ∀ t u, (lexL (c :: s.drop (a + 1)) a).ts = t :: u → t.p = a := by
            intro t u ht
            rw [e] at ht
            split at ht
            · simp only [List.cons.injEq] at ht; rw [← ht.1]; rfl
            · cases ht
          rw [hd] at h ⊢
          have ne : (lexL (c :: s.drop (a + 1)) a).ts ≠ [] := by
            rw [e] at h ⊢
            split
            · simp
            · rename_i h1; rw [if_neg h1] at h; exact absurd h h1
          cases ht : (lexL (c :: s.drop (a + 1)) a).ts with
          | nil => exact absurd ht ne
          | cons t u =>
            have hp := key t u ht
            have hn : nextP (t :: u) s.length = a := by rw [nextP, hp]; simp
            rw [hn]
            refine ⟨Nat.le_refl _, Nat.le_of_lt hlt, fun x hx => ?_, fun t' u' e' => ?_⟩
            · rw [List.drop_eq_nil_of_le (by rw [List.length_take]; omega)] at hx; exact (List.not_mem_nil hx).elim
            · simp only [List.cons.injEq] at e'
              rw [← e'.1, hp]
              simp only [Int.toNat_natCast]
              refine ⟨by omega, hlt, by rw [hd], fun c' r' e'' => ?_⟩
              rw [hd] at e''; simp only [List.cons.injEq] at e''; rw [← e''.1]; exact hb
        · rw [hd, lexL_bad hb he] at h; exact absurd h he
    · obtain rfl : a = s.length := by omega
      rw [List.drop_length, lexL_nil]
      refine ⟨Nat.le_refl _, Nat.le_refl _, fun x hx => ?_, fun t u e => by cases e⟩
      rw [nextP, List.drop_eq_nil_of_le (by rw [List.length_take]; omega)] at hx
      exact (List.not_mem_nil hx).elim
theorem lex_skip (b y : List UInt8) (hb : ∀ c ∈ b, blk c = true) (a : Nat) : lexL (b ++ y) a = lexL y (a + b.length) := by
  induction b generalizing a with
  | nil => rfl
  | cons c b ih =>
    rw [List.cons_append, lexL_blk (hb c (by simp)), ih (fun d hd => hb d (by simp [hd])), List.length_cons]
    congr 1; omega
/-- Blanks laid between tokens change nothing but places. -/
theorem lex_spread (s : List UInt8) (a : Nat) (ha : a ≤ s.length) (h : (lexL (s.drop a) a).e = 0) :
    ∀ bs : List UInt8, (∀ c ∈ bs, blk c = true) → ∀ z, (lexL (spread s (lexL (s.drop a) a).ts bs) z).e = 0 ∧ at0s (lexL (spread s (lexL (s.drop a) a).ts bs) z).ts = at0s (lexL (s.drop a) a).ts := by
  induction hn : s.length - a using Nat.strongRecOn generalizing a with
  | _ n ih =>
    subst hn
    intro bs hbs z
    by_cases hlt : a < s.length
    · obtain ⟨c, hc⟩ : ∃ c, s[a] = c := ⟨_, rfl⟩
      have hd : s.drop a = c :: s.drop (a + 1) := by rw [List.drop_eq_getElem_cons hlt, hc]
      cases hb : blk c with
      | true =>
        have e := lexL_blk (r := s.drop (a + 1)) hb a
        rw [hd, e] at h ⊢
        exact ih (s.length - (a + 1)) (by omega) (a + 1) (by omega) h rfl bs hbs z
      | false =>
        by_cases he : (first (c :: s.drop (a + 1))).e = 0
        · have e := lexL_tok (r := s.drop (a + 1)) hb he a
          obtain ⟨k, hk⟩ : ∃ k, (first (c :: s.drop (a + 1))).s = k := ⟨_, rfl⟩
          obtain ⟨t, ht⟩ : ∃ t, (first (c :: s.drop (a + 1))).t = t := ⟨_, rfl⟩
          have hf := first_ok he
          have hlen : (c :: s.drop (a + 1)).length = s.length - a := by rw [← hd, List.length_drop]
          rw [hk, hlen] at hf
          have hdk : (c :: s.drop (a + 1)).drop k = s.drop (a + k) := by rw [← hd, List.drop_drop]
          have hFst : first (c :: s.drop (a + 1)) = ⟨t, k, 0⟩ := by
            cases hh : first (c :: s.drop (a + 1)) with
            | mk t' s' e' => rw [hh] at hk ht he; simp only at hk ht he; rw [hk, ht, he]
          have ht0 : t.p = 0 := by rw [← ht]; exact first_at0 _
          rw [hk, ht, hdk] at e
          by_cases h1 : (lexL (s.drop (a + k)) (a + k)).e = 0
          · rw [if_pos h1] at e
            rw [hd, e]
            obtain ⟨g1, g2, g3, g4⟩ := lex_gap s (a + k) (by omega) h1
            have IH := ih (s.length - (a + k)) (by omega) (a + k) (by omega) h1 rfl
            obtain ⟨ts, hts⟩ : ∃ ts, (lexL (s.drop (a + k)) (a + k)).ts = ts := ⟨_, rfl⟩
            rw [hts] at g1 g2 g3 g4 IH ⊢
            obtain ⟨q, hq⟩ : ∃ q, nextP ts s.length = q := ⟨_, rfl⟩
            have hp : (t.at_ (a : Int)).p.toNat = a := by simp [Tk.at_]
            obtain ⟨G, hG⟩ : ∃ G, (s.take q).drop (a + k) = G := ⟨_, rfl⟩
            obtain ⟨x, hx⟩ : ∃ x, (s.drop a).take k = x := ⟨_, rfl⟩
            have hxl : x.length = k := by rw [← hx, List.length_take, List.length_drop]; omega
            rw [hq] at g1 g2 g3
            rw [hG] at g3
            have hpc : (s.take q).drop a = x ++ G := by
              rw [← hx, ← hG]
              have : s.drop a = (s.drop a).take k ++ s.drop (a + k) := by rw [← List.drop_drop, List.take_append_drop]
              rw [List.drop_take, List.drop_take, show q - a = k + (q - (a + k)) by omega, List.take_add, List.drop_drop]
            have hsp : spread s (t.at_ (a : Int) :: ts) bs = x ++ (G ++ (bs.take 1 ++ spread s ts (bs.drop 1))) := by
              rw [spread, hp, hq, hpc, List.append_assoc]
            rw [hsp]
            have hbt : ∀ c ∈ bs.take 1, blk c = true := fun c hc => hbs c (List.mem_of_mem_take hc)
            have hbd : ∀ c ∈ bs.drop 1, blk c = true := fun c hc => hbs c (List.mem_of_mem_drop hc)
            have hfirst : first (x ++ s.drop (a + k)) = ⟨t, x.length, 0⟩ := by
              have : s.drop a = x ++ s.drop (a + k) := by rw [← hx, ← List.drop_drop, List.take_append_drop]
              rw [← this, hd, hxl]; exact hFst
            have hnx : Nxt (s.drop (a + k)) (G ++ (bs.take 1 ++ spread s ts (bs.drop 1))) := by
              intro d r ed
              cases hGe : G with
              | cons g G' =>
                rw [hGe, List.cons_append] at ed
                simp only [List.cons.injEq] at ed
                rw [← ed.1]
                exact .inl (g3 g (by rw [hGe]; simp))
              | nil =>
                rw [hGe, List.nil_append] at ed
                cases hbe : bs.take 1 with
                | cons g b' =>
                  rw [hbe, List.cons_append] at ed
                  simp only [List.cons.injEq] at ed
                  rw [← ed.1]
                  exact .inl (hbt g (by rw [hbe]; simp))
                | nil =>
                  rw [hbe, List.nil_append] at ed
                  cases hte : ts with
                  | nil => rw [hte, spread] at ed; cases ed
                  | cons t2 u2 =>
                    obtain ⟨p0, p1, p2, p3⟩ := g4 t2 u2 hte
                    have hq2 : t2.p.toNat = q := by rw [← hq, hte, nextP]
                    have hqa : q = a + k := by
                      have : ((s.take q).drop (a + k)).length = 0 := by rw [hG, hGe]; rfl
                      rw [List.length_drop, List.length_take] at this
                      omega
                    rw [hte, spread, hq2, hqa] at ed
                    -- the second token's piece is not empty
                    rw [hq2, hqa] at p1 p2
                    have hts2 : (lexL (s.drop (a + k)) (a + k)).ts = t2 :: u2 := by rw [hts, hte]
                    refine .inr ?_
                    obtain ⟨c2, hc2⟩ : ∃ c2, s[a + k] = c2 := ⟨_, rfl⟩
                    have hd2 : s.drop (a + k) = c2 :: s.drop (a + k + 1) := by rw [List.drop_eq_getElem_cons p1, hc2]
                    have hgt : a + k < nextP u2 s.length := by
                      have hbl : blk c2 = false := by
                        have := p3 c2 (s.drop (a + k + 1)) (by rw [hq2, hqa]; exact hd2)
                        exact this
                      by_cases he2 : (first (c2 :: s.drop (a + k + 1))).e = 0
                      · have e2 := lexL_tok (r := s.drop (a + k + 1)) hbl he2 (a + k)
                        rw [← hd2] at e2
                        have hh1 := h1
                        rw [e2] at hh1
                        by_cases h3 : (lexL ((s.drop (a + k)).drop (first (s.drop (a + k))).s) (a + k + (first (s.drop (a + k))).s)).e = 0
                        · rw [if_pos h3] at e2
                          have hf2 := first_ok he2
                          rw [← hd2] at hf2
                          rw [List.length_drop] at hf2
                          rw [e2] at hts2
                          simp only [List.cons.injEq] at hts2
                          rw [← hts2.2]
                          rw [List.drop_drop] at h3 ⊢
                          have := (lex_gap s _ (by omega) h3).1
                          omega
                        · rw [if_neg h3] at hh1; exact absurd hh1 h3
                      · rw [hd2, lexL_bad hbl he2] at h1; exact absurd h1 he2
                    have hpiece : (s.take (nextP u2 s.length)).drop (a + k) = c2 :: (s.take (nextP u2 s.length)).drop (a + k + 1) := by
                      rw [List.drop_eq_getElem_cons (by rw [List.length_take]; omega), List.getElem_take, hc2]
                    rw [hpiece, List.cons_append] at ed
                    simp only [List.cons.injEq] at ed
                    exact ⟨_, by rw [hd2, ed.1]⟩
            have hfr := first_next hfirst hnx
            have hsk : ∀ z, lexL (G ++ (bs.take 1 ++ spread s ts (bs.drop 1))) z = lexL (spread s ts (bs.drop 1)) (z + G.length + (bs.take 1).length) := by
              intro z
              rw [lex_skip G _ g3, lex_skip _ _ hbt]
            obtain ⟨j1, j2⟩ := lex_front hfr (front_blk hfr) z (by rw [hsk]; exact (IH (bs.drop 1) hbd _).1)
            refine ⟨j1, ?_⟩
            rw [j2, hsk]
            show _ :: at0s _ = _
            rw [(IH (bs.drop 1) hbd _).2]; rfl
          · rw [hd, e, if_neg h1] at h; exact absurd h h1
        · rw [hd, lexL_bad hb he] at h; exact absurd h he
    · have e : s.drop a = [] := List.drop_eq_nil_of_le (by omega)
      rw [e, lexL_nil, spread, lexL_nil]
      exact ⟨rfl, rfl⟩
end Go.Proofs.YtfmpnakonffkcaaDoor
