/- What LexBack asks: tokens that are read can be told, and lie behind one another. -/
import Derived.Test.YtfmpnakonffkcaaDoorLxPrint3
import Derived.Test.YtfmpnakonffkcaaDoorLxSpr
namespace Go.Proofs.YtfmpnakonffkcaaDoor
open Go.RowKit Go.Sort

def IntsIn (w : World) (a : Option Addr) (zs : List Int) : Prop := ∀ i (h : i < zs.length), ∃ b o, a = some ⟨b, o, none⟩ ∧ w.cell? ⟨b, o + i, none⟩ = some (.int .i64 zs[i])
theorem IntsIn.on {w w' : World} {a : Option Addr} {zs : List Int} (h : IntsIn w a zs) (hb : Below w.heap.size w w') : IntsIn w' a zs := fun i hi => by
  obtain ⟨b, o, e, h1⟩ := h i hi
  exact ⟨b, o, e, (hb.cell (block_lt_of_cell h1)).trans h1⟩
theorem intsIn_nil (w : World) (a : Option Addr) : IntsIn w a [] := fun i hi => by simp at hi
theorem first_fit {l : List UInt8} (h : (first l).e = 0) : inI (first l).t.n ∧ (first l).t.tx.size ≤ l.length := by
  have z : inI 0 := ⟨by decide, by decide⟩
  cases l with
  | nil => cases h
  | cons c r =>
    cases h1 : letB c with
    | true =>
      rw [first_let h1]
      refine ⟨z, ?_⟩
      show (ofL _).size ≤ _
      rw [size_lst, lst_ofL, List.length_map]; exact tw_len _ _
    | false =>
      cases h2 : isDig c with
      | true =>
        rw [first_dig h2] at h ⊢
        split at h
        · rename_i hv
          rw [if_pos hv]
          exact ⟨⟨by show (-9223372036854775808 : Int) ≤ ((_ : Nat) : Int); omega, by show ((_ : Nat) : Int) ≤ _; omega⟩, Nat.zero_le _⟩
        · cases h
      | false =>
        by_cases hc : c = 39
        · subst hc
          rw [first_q] at h ⊢
          cases e : textR r with
          | none => rw [e] at h; cases h
          | some y =>
            obtain ⟨x, n⟩ := y
            refine ⟨z, ?_⟩
            show (ofL x).size ≤ _
            rw [size_lst, lst_ofL]
            have h3 := textR_take r x n e
            have h4 := textR_len r x n e
            have h5 := congrArg List.length h3
            rw [List.length_take, List.length_append] at h5
            have h6 : x.length ≤ (dbl x).length := by
              clear h3 h4 h5 e h
              induction x with
              | nil => exact Nat.le_refl _
              | cons d x ih => rw [dbl]; split <;> simp <;> omega
            simp at h5 ⊢; omega
        · rw [first_sg h1 h2 hc] at h ⊢
          split at h
          · rename_i h4
            rw [if_pos h4]
            have := sg2_len h4
            rw [List.length_take] at this
            refine ⟨z, ?_⟩
            show (ofL _).size ≤ _
            rw [size_lst, lst_ofL, List.length_take]; omega
          · rename_i h4
            rw [if_neg h4]
            split at h
            · rename_i h5
              rw [if_pos h5]
              refine ⟨z, ?_⟩
              show (ofL [c]).size ≤ _
              rw [size_lst, lst_ofL]; simp
            · cases h
theorem lex_fit (l : List UInt8) (a : Nat) : ∀ t ∈ (lexL l a).ts, inI t.n ∧ t.tx.size ≤ l.length := by
  induction hn : l.length using Nat.strongRecOn generalizing l a with
  | _ n ih =>
    subst hn
    cases l with
    | nil => rw [lexL_nil]; simp
    | cons c r =>
      cases hb : blk c with
      | true =>
        rw [lexL_blk hb]
        intro t ht
        have := ih _ (by simp) r (a + 1) rfl t ht
        exact ⟨this.1, by rw [List.length_cons]; omega⟩
      | false =>
        by_cases he : (first (c :: r)).e = 0
        · rw [lexL_tok hb he]
          have hf := first_ok he
          split
          · intro t ht
            rcases List.mem_cons.1 ht with rfl | ht
            · exact first_fit he
            · have := ih _ (by simp only [List.length_drop]; omega) _ _ rfl t ht
              rw [List.length_drop] at this
              exact ⟨this.1, by omega⟩
          · simp
        · rw [lexL_bad hb he]; simp
/-- Each token begins where it may, and ends ahead of the next one. -/
theorem lex_chain (s : List UInt8) (a : Nat) (ha : a ≤ s.length) (h : (lexL (s.drop a) a).e = 0) : ∀ i (hi : i < (lexL (s.drop a) a).ts.length), 0 ≤ ((lexL (s.drop a) a).ts[i]).p ∧ ((lexL (s.drop a) a).ts[i]).p.toNat ≤ nextP ((lexL (s.drop a) a).ts.drop (i + 1)) s.length ∧ nextP ((lexL (s.drop a) a).ts.drop (i + 1)) s.length ≤ s.length := by
  induction hn : s.length - a using Nat.strongRecOn generalizing a with
  | _ n ih =>
    subst hn
    by_cases hlt : a < s.length
    · obtain ⟨c, hc⟩ : ∃ c, s[a] = c := ⟨_, rfl⟩
      have hd : s.drop a = c :: s.drop (a + 1) := by rw [List.drop_eq_getElem_cons hlt, hc]
      cases hb : blk c with
      | true =>
        have e := lexL_blk (r := s.drop (a + 1)) hb a
        rw [← hd] at e
        have key := ih (s.length - (a + 1)) (by omega) (a + 1) (by omega) (by rw [← e]; exact h) rfl
        rw [e]; exact key
      | false =>
        by_cases he : (first (c :: s.drop (a + 1))).e = 0
        · have e := lexL_tok (r := s.drop (a + 1)) hb he a
          rw [← hd] at e he
          have hf := first_ok he
          rw [List.length_drop] at hf
          generalize (first (s.drop a)).s = k at *
          generalize (first (s.drop a)).t = t at *
          rw [List.drop_drop] at e
          by_cases h1 : (lexL (s.drop (a + k)) (a + k)).e = 0
          · rw [if_pos h1] at e
            have key := ih (s.length - (a + k)) (by omega) (a + k) (by omega) h1 rfl
            obtain ⟨g1, g2, _, _⟩ := lex_gap s (a + k) (by omega) h1
            rw [e]
            intro i hi
            cases i with
            | zero =>
              have hp : (t.at_ (a : Int)).p = a := rfl
              simp only [List.getElem_cons_zero, Nat.zero_add, List.drop_succ_cons, List.drop_zero, hp, Int.toNat_natCast]
              exact ⟨by omega, by omega, g2⟩
            | succ i =>
              simp only [List.getElem_cons_succ, List.drop_succ_cons]
              exact key i (by simpa using hi)
          · rw [e, if_neg h1] at h; exact absurd h h1
        · rw [hd, lexL_bad hb he] at h; exact absurd h he
    · intro i hi
      rw [List.drop_eq_nil_of_le (by omega), lexL_nil] at hi
      simp at hi
/-- The blank that a number says. -/
def blB (z : Int) : UInt8 := [32, 9, 10, 13].getD (z % 4).toNat 32
theorem blB_blk (z : Int) : blk (blB z) = true := by
  have h1 : 0 ≤ z % 4 := Int.emod_nonneg z (by decide)
  have h2 : z % 4 < 4 := Int.emod_lt_of_pos z (by decide)
  unfold blB
  rcases (by omega : z % 4 = 0 ∨ z % 4 = 1 ∨ z % 4 = 2 ∨ z % 4 = 3) with e | e | e | e <;> rw [e] <;> decide
theorem bls_blk (zs : List Int) : ∀ c ∈ zs.map blB, blk c = true := by
  intro c hc
  obtain ⟨z, _, rfl⟩ := List.mem_map.1 hc
  exact blB_blk z
theorem spread_step (s : List UInt8) {ts : List Tk} {bs : List UInt8} {i : Nat} (h : i < ts.length) : spread s (ts.drop i) (bs.drop i) = (s.take (nextP (ts.drop (i + 1)) s.length)).drop (ts[i]).p.toNat ++ ((bs.drop i).take 1 ++ spread s (ts.drop (i + 1)) (bs.drop (i + 1))) := by
  rw [List.drop_eq_getElem_cons h, spread, List.drop_drop]
theorem append_str_ (N : Nat) (w w0 : World) {ops : Array Oper} {rest : List Oper} {o : Oper} {act : Act} {Q : Exit → Act → World → Prop} (hgd : o.guard = none) (s x : Operand)
    (ho : o.op = .call { callee := .builtin .append, args := #[s, x], argTypes := #[32, 9] }) (v : Value) (es : List Nat) (hs : act.eval s = v) (hown : Own w N v es)
    (t : ByteArray) (hx : act.eval x = .string t) (hlen : es.length + t.size ≤ 140737488355328) (hN : N ≤ w0.heap.size) (hb : Below N w0 w)
    (hK : ∀ v' w', Own w' N v' (es ++ ns (lst t)) → Below N w0 w' → wpList Tryd.prog ops Q rest (act.put o.dst v') w') : wpList Tryd.prog ops Q (o :: rest) act w := by
  have hsv : Lib.strCells t = vals (ns (lst t)) := by
    unfold Lib.strCells vals ns
    rw [List.map_map]
    rfl
  obtain ⟨i0, hi, hz0, hz1, hz2⟩ := info_parts infoB
  refine Lib.wpList_append_own_string w hgd s x 32 9 ho N 5 i0 Tryd.underlying32 Tryd.underlying9 hi hz0 hz1 hz2 v es.length (vals es) hs hown t hx (by unfold maxLen; omega) hlen (Nat.le_trans hN hb.size) ?_
  intro v' w' h1 h2 _
  rw [hsv] at h1
  exact hK v' w' (own_join rfl (by rw [ns_length, ← size_lst]) h1) (below_grow hN hb hown h2)
theorem ns_snocB (xs : List UInt8) (c : UInt8) : ns (xs ++ [c]) = ns xs ++ [c.toNat] := by simp [ns]
theorem wrap_mod (z : Int) : (IntKind.u64.wrap z).tmod 4 = z % 4 := by
  have e : IntKind.u64.wrap z = z % 18446744073709551616 := by simp [IntKind.wrap, IntKind.bits, IntKind.signed]
  rw [e, Int.tmod_eq_emod_of_nonneg (by omega)]
  omega
end Go.Proofs.YtfmpnakonffkcaaDoor
