/- Plain facts on values laid as bytes: the bytes are ordered as the values are, and are read as them. No program is in it. -/
import Derived.Test.YtlldamgnfaikhaaDoorMath
namespace Go.Proofs.YtlldamgnfaikhaaDoor
open Go.Lib

/-! ### Bytes that part -/
/-- Two rows of bytes part at one place, where the first has the smaller byte. -/
def Apart (p q : List UInt8) : Prop := ∃ c x y r r', p = c ++ x :: r ∧ q = c ++ y :: r' ∧ x.toNat < y.toNat
theorem less_append (c : List UInt8) (p q : List UInt8) : Op.bytesLess (c ++ p) (c ++ q) = Op.bytesLess p q := by
  induction c with
  | nil => rfl
  | cons a c ih =>
    rw [List.cons_append, List.cons_append, Bool.eq_iff_iff, less_cons, ih]
    constructor
    · rintro (h | ⟨_, h⟩)
      · omega
      · exact h
    · intro h; exact .inr ⟨rfl, h⟩
theorem Apart.less {p q : List UInt8} (h : Apart p q) (r r' : List UInt8) : Op.bytesLess (p ++ r) (q ++ r') = true := by
  obtain ⟨c, x, y, a, b, rfl, rfl, hxy⟩ := h
  rw [List.append_assoc, List.append_assoc, less_append, List.cons_append, List.cons_append, less_cons]
  exact .inl hxy
theorem Apart.cons {p q : List UInt8} (h : Apart p q) (a : UInt8) : Apart (a :: p) (a :: q) := by
  obtain ⟨c, x, y, r, r', rfl, rfl, hxy⟩ := h
  exact ⟨a :: c, x, y, r, r', rfl, rfl, hxy⟩
theorem apart_head {x y : UInt8} (p q : List UInt8) (h : x.toNat < y.toNat) : Apart (x :: p) (y :: q) := ⟨[], x, y, p, q, rfl, rfl, h⟩

/-! ### Numbers, the highest byte first -/
def be : Nat → Nat → List UInt8
  | 0, _ => []
  | k + 1, x => UInt8.ofNat (x / 256 ^ k % 256) :: be k x
theorem be_len : ∀ k x, (be k x).length = k
  | 0, _ => rfl
  | k + 1, x => by rw [be, List.length_cons, be_len k x]
theorem byte_of (x : Nat) : (UInt8.ofNat (x % 256)).toNat = x % 256 := by rw [UInt8.toNat_ofNat']; omega
/-- Only what lies below 256 ^ k counts. -/
theorem be_mod : ∀ k x, be k (x % 256 ^ k) = be k x := by
  have key : ∀ k m x, k ≤ m → be k (x % 256 ^ m) = be k x := by
    intro k
    induction k with
    | zero => intro m x _; rfl
    | succ k ih =>
      intro m x h
      have e : x % 256 ^ m / 256 ^ k % 256 = x / 256 ^ k % 256 := by
        obtain ⟨d, rfl⟩ : ∃ d, m = k + (d + 1) := ⟨m - k - 1, by omega⟩
        rw [Nat.pow_add, Nat.mod_mul_right_div_self, Nat.pow_succ, Nat.mul_comm (256 ^ d), Nat.mod_mul_right_mod]
      rw [be, be, e, ih m x (by omega)]
  exact fun k x => key k k x (Nat.le_refl _)
theorem be_apart : ∀ k x y, x < y → y < 256 ^ k → Apart (be k x) (be k y)
  | 0, x, y, h, h2 => by simp at h2; omega
  | k + 1, x, y, h, h2 => by
    have hp : 0 < 256 ^ k := Nat.pos_of_ne_zero (by simp)
    have hy : y / 256 ^ k < 256 := by rw [Nat.div_lt_iff_lt_mul hp, Nat.mul_comm, ← Nat.pow_succ]; exact h2
    have hx : x / 256 ^ k ≤ y / 256 ^ k := Nat.div_le_div_right (Nat.le_of_lt h)
    rw [be, be]
    by_cases e : x / 256 ^ k = y / 256 ^ k
    · rw [e]
      refine Apart.cons ?_ _
      have h3 := Nat.div_add_mod x (256 ^ k)
      have h4 := Nat.div_add_mod y (256 ^ k)
      rw [e] at h3
      have := be_apart k (x % 256 ^ k) (y % 256 ^ k) (by omega) (Nat.mod_lt _ hp)
      rw [be_mod, be_mod] at this
      exact this
    · refine apart_head _ _ ?_
      rw [byte_of, byte_of, Nat.mod_eq_of_lt hy, Nat.mod_eq_of_lt (by omega)]
      omega
/-- What bytes are, the highest first. -/
def num8 (l : List UInt8) : Nat := l.foldl (fun n c => n * 256 + c.toNat) 0
theorem fold8 : ∀ k x a, (be k x).foldl (fun n c => n * 256 + c.toNat) a = a * 256 ^ k + x % 256 ^ k
  | 0, x, a => by simp [be, Nat.mod_one]
  | k + 1, x, a => by
    rw [be, List.foldl_cons, fold8 k x, byte_of]
    have e : x % 256 ^ (k + 1) = x / 256 ^ k % 256 * 256 ^ k + x % 256 ^ k := by
      rw [Nat.pow_succ, Nat.mod_mul, Nat.mul_comm (256 ^ k) (x / 256 ^ k % 256), Nat.add_comm]
    rw [e, Nat.pow_succ, Nat.add_mul, Nat.mul_assoc, Nat.mul_comm (256 ^ k) 256]
    omega
theorem num8_be {x : Nat} (h : x < 18446744073709551616) : num8 (be 8 x) = x := by
  rw [num8, fold8, Nat.mod_eq_of_lt (by exact h)]; omega

/-! ### Values -/
def word (n : Int) : Nat := (n + 9223372036854775808).toNat
def body (v : Val) : List UInt8 := if v.k = 1 then be 8 (word v.n) else if v.k = 2 then v.t.data.toList ++ [0] else if v.k = 3 then [if v.b = true then 1 else 0] else []
def encV (v : Val) : List UInt8 := UInt8.ofNat (v.k + 1).toNat :: body v
def encL (l : List Val) : List UInt8 := l.flatMap encV
def inI64 (n : Int) : Prop := -9223372036854775808 ≤ n ∧ n ≤ 9223372036854775807
/-- Values that may be, with numbers that are ints. -/
def OkV (v : Val) : Prop := validN v = 0 ∧ inI64 v.n
theorem all_ok {v : Val} (h : validN v = 0) : ∀ c ∈ v.t.data.toList, 32 ≤ c.toNat ∧ c.toNat ≤ 126 := by
  unfold validN at h
  split at h
  · cases h
  · split at h
    · cases h
    · split at h
      · cases h
      · rename_i h3
        have h4 : v.t.data.toList.all okB = true := by simpa using h3
        intro c hc
        have := List.all_eq_true.1 h4 c hc
        simpa [okB] using this
theorem text_apart : ∀ s t : List UInt8, (∀ c ∈ s, 32 ≤ c.toNat) → (∀ c ∈ t, 32 ≤ c.toNat) → Op.bytesLess s t = true → Apart (s ++ [0]) (t ++ [0])
  | [], [], _, _, h => by simp [Op.bytesLess] at h
  | [], c :: t, _, h2, _ => by
    have := h2 c (by simp)
    exact apart_head (x := 0) (y := c) [] (t ++ [0]) (Nat.lt_of_lt_of_le (by decide : (0 : UInt8).toNat < 32) this)
  | _ :: _, [], _, _, h => by simp [Op.bytesLess] at h
  | a :: s, c :: t, h1, h2, h => by
    rw [less_cons] at h
    rcases h with h | ⟨rfl, h⟩
    · exact apart_head _ _ h
    · exact (text_apart s t (fun x hx => h1 x (by simp [hx])) (fun x hx => h2 x (by simp [hx])) h).cons a
theorem enc_apart {a b : Val} (ha : OkV a) (hb : OkV b) (h : cmpV a b < 0) : Apart (encV a) (encV b) := by
  have ka := valid_kind (fit_of_valid ha.1)
  have kb := valid_kind (fit_of_valid hb.1)
  unfold cmpV at h
  by_cases hk : a.k = b.k
  · rw [if_neg (fun e => e hk)] at h
    unfold encV
    rw [hk]
    refine Apart.cons ?_ _
    unfold body
    rw [← hk]
    by_cases h1 : a.k = 1
    · rw [if_pos h1] at h
      rw [if_pos h1, if_pos h1]
      have hl : a.n < b.n := by simp only [compareInt] at h; (repeat' split at h) <;> omega
      obtain ⟨x1, x2⟩ := ha.2; obtain ⟨y1, y2⟩ := hb.2
      refine be_apart 8 _ _ ?_ ?_
      · unfold word; omega
      · show word b.n < 18446744073709551616
        unfold word; omega
    · rw [if_neg h1] at h
      rw [if_neg h1, if_neg h1]
      by_cases h2 : a.k = 2
      · rw [if_pos h2] at h
        rw [if_pos h2, if_pos h2]
        refine text_apart _ _ (fun c hc => (all_ok ha.1 c hc).1) (fun c hc => (all_ok hb.1 c hc).1) ?_
        rw [toList_data, toList_data] at h
        rcases cmpT_cases a.t.data.toList b.t.data.toList with ⟨_, e⟩ | ⟨e, _⟩ | ⟨e, _⟩
        · exact e
        · omega
        · omega
      · rw [if_neg h2] at h
        rw [if_neg h2, if_neg h2]
        by_cases h3 : a.k = 3
        · rw [if_pos h3] at h
          rw [if_pos h3, if_pos h3]
          refine apart_head [] [] ?_
          cases hx : a.b <;> cases hy : b.b <;> simp [rk, hx, hy, compareInt] at h ⊢
        · rw [if_neg h3] at h; omega
  · rw [if_pos hk] at h
    have hl : a.k < b.k := by simp only [compareInt] at h; (repeat' split at h) <;> omega
    refine apart_head _ _ ?_
    rw [UInt8.toNat_ofNat', UInt8.toNat_ofNat']
    omega

/-! ### Lists -/
def cmpL : List Val → List Val → Int
  | [], [] => 0
  | [], _ :: _ => -1
  | _ :: _, [] => 1
  | a :: x, b :: y => if cmpV a b ≠ 0 then cmpV a b else cmpL x y
theorem enc_nil_less (v : Val) (l : List UInt8) : Op.bytesLess [] (encV v ++ l) = true := by rw [encV, List.cons_append]; rfl
/-- The bytes are ordered as the lists are. -/
theorem enc_keeps : ∀ x y : List Val, (∀ v ∈ x, OkV v) → (∀ v ∈ y, OkV v) → cmpT (encL x) (encL y) = cmpL x y
  | [], [], _, _ => ordered_text.refl _
  | [], b :: y, _, _ => by
    have h : Op.bytesLess (encL []) (encL (b :: y)) = true := by rw [encL, encL, List.flatMap_nil, List.flatMap_cons]; exact enc_nil_less b _
    rw [cmpT, if_pos h]; rfl
  | a :: x, [], _, _ => by
    have h : Op.bytesLess (encL []) (encL (a :: x)) = true := by rw [encL, encL, List.flatMap_nil, List.flatMap_cons]; exact enc_nil_less a _
    have : cmpT (encL []) (encL (a :: x)) = -1 := by rw [cmpT, if_pos h]
    rw [ordered_text.anti, this]; rfl
  | a :: x, b :: y, h1, h2 => by
    have ha := h1 a (by simp)
    have hb := h2 b (by simp)
    have ea : encL (a :: x) = encV a ++ encL x := by rw [encL, List.flatMap_cons]; rfl
    have eb : encL (b :: y) = encV b ++ encL y := by rw [encL, List.flatMap_cons]; rfl
    rw [ea, eb, cmpL]
    have lo := ordered_val.low a b
    have hi := ordered_val.high a b
    have an := ordered_val.anti a b
    by_cases h0 : cmpV a b = 0
    · rw [if_neg (fun e => e h0)]
      obtain rfl := cmp_eq (fit_of_valid ha.1) (fit_of_valid hb.1) h0
      have ih := enc_keeps x y (fun v hv => h1 v (by simp [hv])) (fun v hv => h2 v (by simp [hv]))
      rw [← ih, cmpT, cmpT, less_append]
      congr 2
      simp
    · rw [if_pos h0]
      rcases (by omega : cmpV a b = -1 ∨ cmpV a b = 1) with e | e
      · rw [e, cmpT, if_pos ((enc_apart ha hb (by omega)).less _ _)]
      · rw [e, ordered_text.anti, cmpT, if_pos ((enc_apart hb ha (by omega)).less _ _)]
        rfl
theorem cmpL_eq : ∀ x y : List Val, (∀ v ∈ x, OkV v) → (∀ v ∈ y, OkV v) → cmpL x y = 0 → x = y
  | [], [], _, _, _ => rfl
  | [], _ :: _, _, _, h => by cases h
  | _ :: _, [], _, _, h => by cases h
  | a :: x, b :: y, h1, h2, h => by
    rw [cmpL] at h
    by_cases h0 : cmpV a b = 0
    · rw [if_neg (fun e => e h0)] at h
      obtain rfl := cmp_eq (fit_of_valid (h1 a (by simp)).1) (fit_of_valid (h2 b (by simp)).1) h0
      rw [cmpL_eq x y (fun v hv => h1 v (by simp [hv])) (fun v hv => h2 v (by simp [hv])) h]
    · rw [if_pos h0] at h; exact absurd h h0
/-- Lists of values that may be have texts of their own. -/
theorem enc_inj {x y : List Val} (hx : ∀ v ∈ x, OkV v) (hy : ∀ v ∈ y, OkV v) (h : encL x = encL y) : x = y := by
  refine cmpL_eq x y hx hy ?_
  rw [← enc_keeps x y hx hy, h, ordered_text.refl]
theorem enc_append (x y : List Val) : encL (x ++ y) = encL x ++ encL y := by simp [encL]
end Go.Proofs.YtlldamgnfaikhaaDoor
