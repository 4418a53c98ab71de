/- Plain facts on bytes read as values by the program: one value at the begin of a text; what is read and may be was laid. No program is in it. -/
import Derived.Test.YtlldamgnfaikhaaDoorORead
namespace Go.Proofs.YtlldamgnfaikhaaDoor
open Go.Lib

/-! ### Bytes of a number, back -/
theorem num8_lt : ∀ l : List UInt8, num8 l < 256 ^ l.length := by
  have key : ∀ (l : List UInt8) (a : Nat), l.foldl (fun n c => n * 256 + c.toNat) a < (a + 1) * 256 ^ l.length := by
    intro l
    induction l with
    | nil => intro a; simp
    | cons c l ih =>
      intro a
      have := ih (a * 256 + c.toNat)
      have hc := c.toNat_lt
      rw [List.foldl_cons, List.length_cons, Nat.pow_succ]
      refine Nat.lt_of_lt_of_le this ?_
      rw [Nat.mul_comm (256 ^ l.length) 256, ← Nat.mul_assoc]
      exact Nat.mul_le_mul_right _ (by omega)
  intro l
  have := key l 0
  simpa [num8] using this
theorem fold8_eq : ∀ (l : List UInt8) (a : Nat), l.foldl (fun n c => n * 256 + c.toNat) a = a * 256 ^ l.length + num8 l
  | [], a => by simp [num8]
  | c :: l, a => by
    have e : num8 (c :: l) = c.toNat * 256 ^ l.length + num8 l := by
      show l.foldl _ (0 * 256 + c.toNat) = _
      rw [fold8_eq l, Nat.zero_mul, Nat.zero_add]
    rw [List.foldl_cons, fold8_eq l, e, List.length_cons, Nat.pow_succ, Nat.add_mul, Nat.mul_assoc, Nat.mul_comm 256]
    omega
theorem num8_cons (c : UInt8) (l : List UInt8) : num8 (c :: l) = c.toNat * 256 ^ l.length + num8 l := by
  rw [num8, List.foldl_cons, fold8_eq]; simp
theorem be_num8 : ∀ l : List UInt8, be l.length (num8 l) = l
  | [] => rfl
  | c :: l => by
    have h := num8_lt l
    have hp : 0 < 256 ^ l.length := Nat.pos_of_ne_zero (by simp)
    rw [List.length_cons, be, num8_cons]
    have e1 : (c.toNat * 256 ^ l.length + num8 l) / 256 ^ l.length = c.toNat := by
      rw [Nat.mul_comm, Nat.mul_add_div hp, Nat.div_eq_of_lt h]; rfl
    have e2 : be l.length (c.toNat * 256 ^ l.length + num8 l) = l := by
      rw [← be_mod, Nat.mul_comm, Nat.mul_add_mod, Nat.mod_eq_of_lt h, be_num8 l]
    have hc := c.toNat_lt
    rw [e1, e2, Nat.mod_eq_of_lt hc, UInt8.ofNat_toNat]

/-! ### One value at the begin of a text -/
def fstB : List UInt8 → Option (Val × List UInt8)
  | [] => none
  | x :: q => if x.toNat ≤ 1 then some (⟨3, 0, ⟨#[]⟩, x.toNat == 1⟩, q) else none
def fst : List UInt8 → Option (Val × List UInt8)
  | [] => none
  | c :: r =>
    if c.toNat = 1 then some (⟨0, 0, ⟨#[]⟩, false⟩, r)
    else if c.toNat = 2 then (if 8 ≤ r.length then some (⟨1, (num8 (r.take 8) : Int) - 9223372036854775808, ⟨#[]⟩, false⟩, r.drop 8) else none)
    else if c.toNat = 3 then (if 0 ∈ r then some (⟨2, 0, ⟨(r.takeWhile (· != 0)).toArray⟩, false⟩, (r.dropWhile (· != 0)).drop 1) else none)
    else if c.toNat = 4 then fstB r
    else none
theorem in_zero : inI64 0 := ⟨by decide, by decide⟩
theorem cut_text : ∀ r : List UInt8, 0 ∈ r → r = r.takeWhile (· != 0) ++ 0 :: (r.dropWhile (· != 0)).drop 1
  | [], h => by simp at h
  | c :: r, h => by
    by_cases hc : c = 0
    · subst hc; simp
    · have hb : (c != 0) = true := by simpa using hc
      rw [List.takeWhile_cons, List.dropWhile_cons, hb]
      simp only [if_true, List.cons_append]
      congr 1
      exact cut_text r (by rcases List.mem_cons.1 h with e | h'; exact absurd e.symm hc; exact h')
/-- What is read was laid. -/
theorem fst_sound {s : List UInt8} {v : Val} {r : List UInt8} (h : fst s = some (v, r)) : s = encV v ++ r ∧ inI64 v.n ∧ r.length < s.length := by
  cases s with
  | nil => cases h
  | cons c q =>
    have hc := c.toNat_lt
    rw [fst] at h
    have ce : ∀ k : Nat, c.toNat = k → c = UInt8.ofNat k := fun k e => by rw [← e, UInt8.ofNat_toNat]
    split at h
    · rename_i h1
      cases h
      refine ⟨?_, in_zero, by simp⟩
      rw [ce 1 h1]; rfl
    · split at h
      · rename_i h2
        split at h
        · rename_i hl
          cases h
          have hn := num8_lt (q.take 8)
          have h8 : (q.take 8).length = 8 := by simp; omega
          rw [h8] at hn
          have hn2 : num8 (q.take 8) < 18446744073709551616 := hn
          refine ⟨?_, ⟨by show _ ≤ (num8 (q.take 8) : Int) - 9223372036854775808; omega, by show (num8 (q.take 8) : Int) - 9223372036854775808 ≤ _; omega⟩, by simp; omega⟩
          rw [ce 2 h2, encV, body, if_pos rfl]
          have hw : word ((num8 (q.take 8) : Int) - 9223372036854775808) = num8 (q.take 8) := by unfold word; omega
          show _ = UInt8.ofNat ((1 : Int) + 1).toNat :: be 8 (word ((num8 (q.take 8) : Int) - 9223372036854775808)) ++ q.drop 8
          have hb := be_num8 (q.take 8)
          rw [h8] at hb
          rw [hw, hb, List.cons_append, List.take_append_drop]
          rfl
        · cases h
      · split at h
        · rename_i h3
          split at h
          · rename_i hm
            cases h
            have e := cut_text q hm
            refine ⟨?_, in_zero, ?_⟩
            · rw [ce 3 h3, encV, body]
              show _ = UInt8.ofNat ((2 : Int) + 1).toNat :: (if (2 : Int) = 1 then _ else if (2 : Int) = 2 then (q.takeWhile (· != 0)) ++ [0] else _) ++ _
              rw [if_neg (by decide), if_pos rfl, List.cons_append, List.append_assoc]
              show _ = _ :: (q.takeWhile (· != 0) ++ 0 :: (q.dropWhile (· != 0)).drop 1)
              rw [← e]; rfl
            · have := congrArg List.length e
              simp only [List.length_append, List.length_cons] at this ⊢
              omega
          · cases h
        · split at h
          · rename_i h4
            cases q with
            | nil => cases h
            | cons x q =>
              rw [fstB] at h
              split at h
              · rename_i hx
                cases h
                refine ⟨?_, in_zero, by simp; omega⟩
                have hx' : x.toNat = 0 ∨ x.toNat = 1 := by omega
                have xe : ∀ k : Nat, x.toNat = k → x = UInt8.ofNat k := fun k e => by rw [← e, UInt8.ofNat_toNat]
                rw [ce 4 h4]
                rcases hx' with e | e
                · rw [xe 0 e]; rfl
                · rw [xe 1 e]; rfl
              · cases h
          · cases h
/-- What is laid is read. -/
theorem fst_enc {v : Val} (h : OkV v) (r : List UInt8) : fst (encV v ++ r) = some (v, r) := by
  have hf := fit_of_valid h.1
  have hk := valid_kind hf
  simp only [fit, Bool.or_eq_true, Bool.and_eq_true, beq_iff_eq, Bool.not_eq_true'] at hf
  have hc : (UInt8.ofNat (v.k + 1).toNat).toNat = (v.k + 1).toNat := by rw [UInt8.toNat_ofNat']; omega
  rw [encV, List.cons_append, fst, hc]
  rcases hf with ((⟨⟨⟨a0, a1⟩, a2⟩, a3⟩ | ⟨⟨a0, a2⟩, a3⟩) | ⟨⟨a0, a1⟩, a3⟩) | ⟨⟨a0, a1⟩, a2⟩
  · have hb : body v = [] := by unfold body; rw [if_neg (by omega), if_neg (by omega), if_neg (by omega)]
    rw [hb, if_pos (by omega), List.nil_append]
    exact congrArg some (Prod.ext (val_ext a0.symm a1.symm (ba_empty a2).symm a3.symm) rfl)
  · have hb : body v = be 8 (word v.n) := by unfold body; rw [if_pos a0]
    rw [hb, if_neg (by omega), if_pos (by omega), if_pos (by rw [List.length_append, be_len]; omega)]
    obtain ⟨x1, x2⟩ := h.2
    refine congrArg some (Prod.ext (val_ext a0.symm ?_ (ba_empty a2).symm a3.symm) ?_)
    · show (num8 ((be 8 (word v.n) ++ r).take 8) : Int) - 9223372036854775808 = v.n
      rw [num8_append (by unfold word; omega)]
      unfold word; omega
    · show (be 8 (word v.n) ++ r).drop 8 = r
      rw [List.drop_append_of_le_length (by rw [be_len]; exact Nat.le_refl _), List.drop_of_length_le (by rw [be_len]; exact Nat.le_refl _), List.nil_append]
  · have hb : body v = v.t.data.toList ++ [0] := by unfold body; rw [if_neg (by omega), if_pos a0]
    have e : v.t.data.toList ++ [0] ++ r = v.t.data.toList ++ 0 :: r := by simp
    obtain ⟨h1, h2⟩ := take_text v.t.data.toList r (fun c hc => (all_ok h.1 c hc).1)
    rw [hb, if_neg (by omega), if_neg (by omega), if_pos (by omega), e, if_pos (by simp), h1, h2]
    exact congrArg some (Prod.ext (val_ext a0.symm a1.symm rfl a3.symm) rfl)
  · have hb : body v = [if v.b = true then 1 else 0] := by unfold body; rw [if_neg (by omega), if_neg (by omega), if_pos a0]
    rw [hb, if_neg (by omega), if_neg (by omega), if_neg (by omega), if_pos (by omega), List.cons_append, List.nil_append, fstB, if_pos (by split <;> decide)]
    refine congrArg some (Prod.ext (val_ext a0.symm a1.symm (ba_empty a2).symm ?_) rfl)
    show ((if v.b = true then (1 : UInt8) else 0).toNat == 1) = v.b
    cases v.b <;> rfl
theorem encV_ne (v : Val) (r : List UInt8) : encV v ++ r ≠ [] := by rw [encV, List.cons_append]; exact List.cons_ne_nil _ _
theorem encL_cons (v : Val) (l : List Val) : encL (v :: l) = encV v ++ encL l := by rw [encL, List.flatMap_cons]; rfl
/-- Texts of values that begin alike go on alike. -/
theorem enc_split : ∀ (p l : List Val) (r : List UInt8), (∀ v ∈ p, OkV v) → (∀ v ∈ l, OkV v) → encL l = encL p ++ r → ∃ l', l = p ++ l' ∧ r = encL l'
  | [], l, r, _, _, h => ⟨l, rfl, by rw [h]; rfl⟩
  | v :: p, [], r, _, _, h => by
    rw [encL_cons, List.append_assoc] at h
    exact absurd h.symm (encV_ne _ _)
  | v :: p, u :: l, r, hp, hl, h => by
    rw [encL_cons, encL_cons, List.append_assoc] at h
    have e := fst_enc (hl u (by simp)) (encL l)
    rw [h, fst_enc (hp v (by simp))] at e
    simp only [Option.some.injEq, Prod.mk.injEq] at e
    obtain ⟨rfl, e2⟩ := e
    obtain ⟨l', rfl, hr⟩ := enc_split p l r (fun x hx => hp x (by simp [hx])) (fun x hx => hl x (by simp [hx])) e2.symm
    exact ⟨l', rfl, hr⟩
/-! ### The error of a list, its text, the list of a text -/
/-- The error of the first value that may not be, or of too many. -/
def encE : List Val → Nat → Int
  | [], n => if 16 < n then 2 else 0
  | v :: l, n => if validN v ≠ 0 then validN v else encE l n
def errL (l : List Val) : Int := encE l l.length
def txtL (l : List Val) : List UInt8 := if errL l = 0 then encL l else []
theorem encE_zero : ∀ (l : List Val) (n : Nat), encE l n = 0 ↔ (∀ v ∈ l, validN v = 0) ∧ n ≤ 16
  | [], n => by
    rw [encE]
    constructor
    · intro h; split at h
      · cases h
      · exact ⟨fun v hv => by simp at hv, by omega⟩
    · rintro ⟨_, h⟩; rw [if_neg (by omega)]
  | v :: l, n => by
    rw [encE]
    constructor
    · intro h
      split at h
      · exact absurd h ‹_›
      · rename_i h0
        obtain ⟨h1, h2⟩ := (encE_zero l n).1 h
        refine ⟨fun x hx => ?_, h2⟩
        rcases List.mem_cons.1 hx with rfl | hx
        · simpa using h0
        · exact h1 x hx
    · rintro ⟨h1, h2⟩
      rw [if_neg (fun e => e (h1 v (by simp)))]
      exact (encE_zero l n).2 ⟨fun x hx => h1 x (by simp [hx]), h2⟩
theorem errL_zero (l : List Val) : errL l = 0 ↔ (∀ v ∈ l, validN v = 0) ∧ l.length ≤ 16 := encE_zero l l.length
/-- Up to a place all may be. -/
theorem encE_at : ∀ (l : List Val) (n i : Nat), (∀ j (h : j < l.length), j < i → validN l[j] = 0) → encE l n = encE (l.drop i) n
  | [], n, i, _ => by simp
  | v :: l, n, 0, _ => rfl
  | v :: l, n, i + 1, h => by
    have h0 : validN v = 0 := h 0 (by simp) (by omega)
    rw [encE, if_neg (fun e => e h0), List.drop_succ_cons]
    exact encE_at l n i (fun j hj hi => h (j + 1) (by simp; omega) (by omega))
/-- The text of a list: then it is the only one. -/
def IsTxt (s : List UInt8) (l : List Val) : Prop := (∀ v ∈ l, OkV v) ∧ l.length ≤ 16 ∧ s = encL l
theorem IsTxt.unique {s : List UInt8} {l l' : List Val} (h : IsTxt s l) (h' : IsTxt s l') : l = l' := enc_inj h.1 h'.1 (h.2.2.symm.trans h'.2.2)
theorem IsTxt.err {s : List UInt8} {l : List Val} (h : IsTxt s l) : errL l = 0 := (errL_zero l).2 ⟨fun v hv => (h.1 v hv).1, h.2.1⟩
theorem encV_len {v : Val} (h : validN v = 0) : (encV v).length ≤ 4098 := by
  have hs : v.t.data.toList.length ≤ 4096 := by
    unfold validN at h
    split at h
    · cases h
    · split at h
      · cases h
      · rename_i h2
        have : v.t.size ≤ 4096 := by omega
        simpa using this
  rw [encV, List.length_cons]
  unfold body
  split
  · rw [be_len]; omega
  · split
    · rw [List.length_append]; simp at hs ⊢; omega
    · split <;> simp
theorem encL_len : ∀ (l : List Val), (∀ v ∈ l, validN v = 0) → (encL l).length ≤ 4098 * l.length
  | [], _ => Nat.le_refl _
  | v :: l, h => by
    have h1 := encV_len (h v (by simp))
    have h2 := encL_len l (fun x hx => h x (by simp [hx]))
    rw [encL_cons, List.length_append, List.length_cons]; omega
theorem encL_snoc (l : List Val) (v : Val) : encL (l ++ [v]) = encL l ++ encV v := by rw [enc_append, encL_cons]; simp [encL]
end Go.Proofs.YtlldamgnfaikhaaDoor
