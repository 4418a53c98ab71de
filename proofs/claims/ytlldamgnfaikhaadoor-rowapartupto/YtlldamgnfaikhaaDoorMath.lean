/- Plain facts on values: their order, their literals, numbers that may leave an int. No program is in it. -/
import Derived.Lib.Replace
import Derived.Lib.ItoaNum
import Derived.Lib.AtoiAllCases
import Derived.Lib.Small
import Derived.Lib.Strings
import GoSem.Op.String
namespace Go.Proofs.YtlldamgnfaikhaaDoor
open Go.Lib

/-! ### An order told by -1, 0, 1 -/
structure Ordered {α : Type} (f : α → α → Int) : Prop where
  refl : ∀ a, f a a = 0
  anti : ∀ a b, f a b = -f b a
  low : ∀ a b, -1 ≤ f a b
  high : ∀ a b, f a b ≤ 1
  le_le : ∀ a b c, f a b ≤ 0 → f b c ≤ 0 → f a c ≤ 0
  le_lt : ∀ a b c, f a b ≤ 0 → f b c < 0 → f a c < 0

theorem ordered_int : Ordered compareInt := by
  constructor <;> (intros; simp only [compareInt] at *; (repeat' split at *) <;> omega)

def cmpT (s t : List UInt8) : Int := if Op.bytesLess s t = true then -1 else if (!(Op.bytesLess s t || s == t)) = true then 1 else 0

theorem less_irrefl : ∀ s, Op.bytesLess s s = false
  | [] => rfl
  | a :: s => by simp [Op.bytesLess, less_irrefl s]
theorem less_cons {a b : UInt8} {x y : List UInt8} : Op.bytesLess (a :: x) (b :: y) = true ↔ a.toNat < b.toNat ∨ (a = b ∧ Op.bytesLess x y = true) := by
  simp [Op.bytesLess, UInt8.lt_iff_toNat_lt]
theorem less_trans : ∀ s t u, Op.bytesLess s t = true → Op.bytesLess t u = true → Op.bytesLess s u = true
  | [], [], _, h, _ => by simp [Op.bytesLess] at h
  | _ :: _, [], _, h, _ => by simp [Op.bytesLess] at h
  | [], _ :: _, [], _, h => by simp [Op.bytesLess] at h
  | _ :: _, _ :: _, [], _, h => by simp [Op.bytesLess] at h
  | [], _ :: _, _ :: _, _, _ => by simp [Op.bytesLess]
  | a :: s, b :: t, c :: u, h1, h2 => by
    rw [less_cons] at *
    rcases h1 with h1 | ⟨rfl, h1⟩ <;> rcases h2 with h2 | ⟨rfl, h2⟩
    · left; omega
    · left; omega
    · left; omega
    · right; exact ⟨rfl, less_trans s t u h1 h2⟩
theorem less_total : ∀ s t, Op.bytesLess s t = false → Op.bytesLess t s = false → s = t
  | [], [], _, _ => rfl
  | [], _ :: _, h, _ => by simp [Op.bytesLess] at h
  | _ :: _, [], _, h => by simp [Op.bytesLess] at h
  | a :: s, b :: t, h1, h2 => by
    have n1 : ¬ Op.bytesLess (a :: s) (b :: t) = true := by rw [h1]; simp
    have n2 : ¬ Op.bytesLess (b :: t) (a :: s) = true := by rw [h2]; simp
    rw [less_cons] at n1 n2
    have e : a = b := UInt8.toNat_inj.1 (by omega)
    subst e
    rw [less_total s t (by by_cases h : Op.bytesLess s t = true; exact absurd (Or.inr ⟨rfl, h⟩) n1; simpa using h) (by by_cases h : Op.bytesLess t s = true; exact absurd (Or.inr ⟨rfl, h⟩) n2; simpa using h)]
theorem less_asymm {s t : List UInt8} (h : Op.bytesLess s t = true) : Op.bytesLess t s = false := by
  by_cases h2 : Op.bytesLess t s = true
  · have := less_trans _ _ _ h h2; rw [less_irrefl] at this; cases this
  · simpa using h2
/-- The three cases of two texts. -/
theorem cmpT_cases (s t : List UInt8) : (cmpT s t = -1 ∧ Op.bytesLess s t = true) ∨ (cmpT s t = 0 ∧ s = t) ∨ (cmpT s t = 1 ∧ Op.bytesLess t s = true) := by
  by_cases h : Op.bytesLess s t = true
  · exact .inl ⟨by rw [cmpT, if_pos h], h⟩
  · by_cases e : s = t
    · subst e; exact .inr (.inl ⟨by rw [cmpT, if_neg h]; simp, rfl⟩)
    · refine .inr (.inr ⟨?_, ?_⟩)
      · rw [cmpT, if_neg h, if_pos]; simp only [Bool.not_eq_true] at h; simp [h, e]
      · by_cases h2 : Op.bytesLess t s = true
        · exact h2
        · exact absurd (less_total _ _ (by simpa using h) (by simpa using h2)) e
theorem ordered_text : Ordered cmpT where
  refl a := by rcases cmpT_cases a a with ⟨_, h⟩ | ⟨h, _⟩ | ⟨_, h⟩ <;> first | exact h | (rw [less_irrefl] at h; cases h)
  anti a b := by
    rcases cmpT_cases a b with ⟨e1, h1⟩ | ⟨e1, h1⟩ | ⟨e1, h1⟩ <;> rcases cmpT_cases b a with ⟨e2, h2⟩ | ⟨e2, h2⟩ | ⟨e2, h2⟩ <;> first | omega | skip
    · rw [less_asymm h1] at h2; cases h2
    · subst h2; rw [less_irrefl] at h1; cases h1
    · subst h1; rw [less_irrefl] at h2; cases h2
    · subst h1; rw [less_irrefl] at h2; cases h2
    · subst h2; rw [less_irrefl] at h1; cases h1
    · rw [less_asymm h1] at h2; cases h2
  low a b := by rcases cmpT_cases a b with ⟨e, _⟩ | ⟨e, _⟩ | ⟨e, _⟩ <;> omega
  high a b := by rcases cmpT_cases a b with ⟨e, _⟩ | ⟨e, _⟩ | ⟨e, _⟩ <;> omega
  le_le a b c h1 h2 := by
    rcases cmpT_cases a b with ⟨e1, k1⟩ | ⟨e1, rfl⟩ | ⟨e1, _⟩
    · rcases cmpT_cases b c with ⟨e2, k2⟩ | ⟨e2, rfl⟩ | ⟨e2, _⟩
      · rw [cmpT, if_pos (less_trans _ _ _ k1 k2)]; omega
      · omega
      · omega
    · exact h2
    · omega
  le_lt a b c h1 h2 := by
    rcases cmpT_cases b c with ⟨e2, k2⟩ | ⟨e2, _⟩ | ⟨e2, _⟩
    · rcases cmpT_cases a b with ⟨e1, k1⟩ | ⟨e1, rfl⟩ | ⟨e1, _⟩
      · rw [cmpT, if_pos (less_trans _ _ _ k1 k2)]; omega
      · exact h2
      · omega
    · omega
    · omega

/-! ### Values -/
structure Val where
  k : Int
  n : Int
  t : ByteArray
  b : Bool
def rk (b : Bool) : Int := if b = true then 1 else 0
def cmpV (a b : Val) : Int := if a.k ≠ b.k then compareInt a.k b.k else if a.k = 1 then compareInt a.n b.n else if a.k = 2 then cmpT a.t.toList b.t.toList else if a.k = 3 then compareInt (rk a.b) (rk b.b) else 0
theorem ordered_zero {α : Type} : Ordered (fun _ _ : α => (0 : Int)) := by constructor <;> intros <;> omega
theorem Ordered.on {α β : Type} {f : α → α → Int} (h : Ordered f) (g : β → α) : Ordered (fun x y => f (g x) (g y)) :=
  ⟨fun _ => h.refl _, fun _ _ => h.anti _ _, fun _ _ => h.low _ _, fun _ _ => h.high _ _, fun _ _ _ => h.le_le _ _ _, fun _ _ _ => h.le_lt _ _ _⟩
/-- First by a number, then by an order of its own for each number. -/
theorem ordered_by {α : Type} (k : α → Int) (f : Int → α → α → Int) (h : ∀ i, Ordered (f i)) : Ordered (fun a b => if k a ≠ k b then compareInt (k a) (k b) else f (k a) a b) where
  refl a := by simp [(h _).refl]
  anti a b := by
    by_cases e : k a = k b
    · simp only [e, ne_eq, not_true_eq_false, if_false]; exact (h _).anti _ _
    · simp only [ne_eq, e, Ne.symm e, not_false_eq_true, if_true]; exact ordered_int.anti _ _
  low a b := by
    show -1 ≤ (if k a ≠ k b then compareInt (k a) (k b) else f (k a) a b)
    split
    · exact ordered_int.low _ _
    · exact (h _).low _ _
  high a b := by
    show (if k a ≠ k b then compareInt (k a) (k b) else f (k a) a b) ≤ 1
    split
    · exact ordered_int.high _ _
    · exact (h _).high _ _
  le_le a b c h1 h2 := by
    by_cases e1 : k a = k b <;> by_cases e2 : k b = k c
    · simp only [e1, e2, ne_eq, not_true_eq_false, if_false] at *; exact (h _).le_le _ _ _ h1 h2
    · simp only [e1, e2, ne_eq, not_true_eq_false, not_false_eq_true, if_false, if_true] at *; exact h2
    · rw [if_pos (by rw [← e2]; exact e1)]; rw [if_pos e1] at h1; rw [← e2]; exact h1
    · rw [if_pos e1] at h1; rw [if_pos e2] at h2
      have := ordered_int.le_le _ _ _ h1 h2
      have h1' : k a < k b := by simp only [compareInt] at h1; (repeat' split at h1) <;> omega
      have h2' : k b < k c := by simp only [compareInt] at h2; (repeat' split at h2) <;> omega
      rw [if_pos (by omega)]; exact this
  le_lt a b c h1 h2 := by
    by_cases e1 : k a = k b <;> by_cases e2 : k b = k c
    · simp only [e1, e2, ne_eq, not_true_eq_false, if_false] at *; exact (h _).le_lt _ _ _ h1 h2
    · simp only [e1, e2, ne_eq, not_true_eq_false, not_false_eq_true, if_false, if_true] at *; exact h2
    · rw [if_pos e1] at h1
      have h1' : k a < k b := by simp only [compareInt] at h1; (repeat' split at h1) <;> omega
      rw [if_pos (by omega)]; simp only [compareInt]; rw [if_pos (by omega)]; omega
    · rw [if_pos e1] at h1; rw [if_pos e2] at h2
      have h1' : k a < k b := by simp only [compareInt] at h1; (repeat' split at h1) <;> omega
      have h2' : k b < k c := by simp only [compareInt] at h2; (repeat' split at h2) <;> omega
      rw [if_pos (by omega)]; simp only [compareInt]; rw [if_pos (by omega)]; omega
theorem ordered_val : Ordered cmpV :=
  ordered_by Val.k (fun i a b => if i = 1 then compareInt a.n b.n else if i = 2 then cmpT a.t.toList b.t.toList else if i = 3 then compareInt (rk a.b) (rk b.b) else 0) fun i => by
    by_cases h1 : i = 1
    · simp only [h1, if_true]; exact ordered_int.on Val.n
    by_cases h2 : i = 2
    · subst h2; exact ordered_text.on fun v : Val => v.t.toList
    by_cases h3 : i = 3
    · subst h3; exact ordered_int.on fun v : Val => rk v.b
    · simp only [h1, h2, h3, if_false]; exact ordered_zero

/-! ### What may be -/
def okB (c : UInt8) : Bool := decide (32 ≤ c.toNat) && decide (c.toNat ≤ 126)
def fit (v : Val) : Bool := (v.k == 0 && v.n == 0 && v.t.size == 0 && !v.b) || (v.k == 1 && v.t.size == 0 && !v.b) || (v.k == 2 && v.n == 0 && !v.b) || (v.k == 3 && v.n == 0 && v.t.size == 0)
def validN (v : Val) : Int := if fit v = false then 3 else if v.t.size > 4096 then 2 else if v.t.data.toList.all okB = false then 3 else 0
theorem ba_empty {t : ByteArray} (h : t.size = 0) : t = ⟨#[]⟩ := by
  obtain ⟨⟨l⟩⟩ := t
  cases l with
  | nil => rfl
  | cons _ _ => simp [ByteArray.size] at h
theorem fit_of_valid {v : Val} (h : validN v = 0) : fit v = true := by
  unfold validN at h; by_cases hf : fit v = true
  · exact hf
  · rw [if_pos (by simpa using hf)] at h; cases h
theorem valid_kind {v : Val} (h : fit v = true) : v.k = 0 ∨ v.k = 1 ∨ v.k = 2 ∨ v.k = 3 := by
  simp only [fit, Bool.or_eq_true, Bool.and_eq_true, beq_iff_eq] at h; omega
theorem val_ext {a b : Val} (h1 : a.k = b.k) (h2 : a.n = b.n) (h3 : a.t = b.t) (h4 : a.b = b.b) : a = b := by
  cases a; cases b; simp_all
theorem toList_inj {s t : ByteArray} (h : s.toList = t.toList) : s = t := by
  have e : s.data.toList = t.data.toList := by rw [toList_data, toList_data] at h; exact h
  obtain ⟨⟨l⟩⟩ := s; obtain ⟨⟨m⟩⟩ := t
  simp at e; rw [e]
/-- Values that may be and are not told apart are the same. -/
theorem cmp_eq {a b : Val} (ha : fit a = true) (hb : fit b = true) (h : cmpV a b = 0) : a = b := by
  unfold cmpV at h
  by_cases hk : a.k = b.k
  · rw [if_neg (fun e => e hk)] at h
    simp only [fit, Bool.or_eq_true, Bool.and_eq_true, beq_iff_eq, Bool.not_eq_true'] at ha hb
    rcases ha with ((⟨⟨⟨a0, a1⟩, a2⟩, a3⟩ | ⟨⟨a0, a2⟩, a3⟩) | ⟨⟨a0, a1⟩, a3⟩) | ⟨⟨a0, a1⟩, a2⟩ <;> rcases hb with ((⟨⟨⟨b0, b1⟩, b2⟩, b3⟩ | ⟨⟨b0, b2⟩, b3⟩) | ⟨⟨b0, b1⟩, b3⟩) | ⟨⟨b0, b1⟩, b2⟩ <;> try omega
    · exact val_ext hk (by omega) (by rw [ba_empty a2, ba_empty b2]) (by rw [a3, b3])
    · rw [if_pos a0] at h
      refine val_ext hk ?_ (by rw [ba_empty a2, ba_empty b2]) (by rw [a3, b3])
      simp only [compareInt] at h; (repeat' split at h) <;> omega
    · rw [if_neg (by omega), if_pos a0] at h
      refine val_ext hk (by omega) ?_ (by rw [a3, b3])
      rcases cmpT_cases a.t.toList b.t.toList with ⟨e, _⟩ | ⟨_, e⟩ | ⟨e, _⟩
      · omega
      · exact toList_inj e
      · omega
    · rw [if_neg (by omega), if_neg (by omega), if_pos a0] at h
      refine val_ext hk (by omega) (by rw [ba_empty a2, ba_empty b2]) ?_
      simp only [compareInt, rk] at h
      cases ha' : a.b <;> cases hb' : b.b <;> simp [ha', hb'] at h ⊢
  · rw [if_pos hk] at h
    simp only [compareInt] at h; (repeat' split at h) <;> omega
end Go.Proofs.YtlldamgnfaikhaaDoor
