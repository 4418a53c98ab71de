/- Plain facts: lists of keys with values in order; nodes woven of such lists. No program is in it. -/
import Derived.Lib.Small
import Derived.Lib.Strings
import Derived.Lib.Bytealg
import GoSem.Op.String
namespace Go.Proofs.YtalmanfjiblhcaaGreat
open Go.Lib
theorem less_irrefl : ∀ s, Op.bytesLess s s = false
 | [] => rfl
 | a :: s => by simp [Op.bytesLess, less_irrefl s]
theorem less_cons {a b : UInt8} {x y : List UInt8} : Op.bytesLess (a :: x) (b :: y) = true ↔ a.toNat < b.toNat ∨ (a = b ∧ Op.bytesLess x y = true) := by
 simp [Op.bytesLess, UInt8.lt_iff_toNat_lt]
theorem less_trans : ∀ s t u, Op.bytesLess s t = true → Op.bytesLess t u = true → Op.bytesLess s u = true
 | [], [], _, h, _ => by simp [Op.bytesLess] at h
 | _ :: _, [], _, h, _ => by simp [Op.bytesLess] at h
 | [], _ :: _, [], _, h => by simp [Op.bytesLess] at h
 | _ :: _, _ :: _, [], _, h => by simp [Op.bytesLess] at h
 | [], _ :: _, _ :: _, _, _ => by simp [Op.bytesLess]
 | a :: s, b :: t, c :: u, h1, h2 => by
   rw [less_cons] at *
   rcases h1 with h1 | ⟨rfl, h1⟩ <;> rcases h2 with h2 | ⟨rfl, h2⟩
   · left; omega
   · left; omega
   · left; omega
   · right; exact ⟨rfl, less_trans s t u h1 h2⟩
theorem less_total : ∀ s t, Op.bytesLess s t = false → Op.bytesLess t s = false → s = t
 | [], [], _, _ => rfl
 | [], _ :: _, h, _ => by simp [Op.bytesLess] at h
 | _ :: _, [], _, h => by simp [Op.bytesLess] at h
 | a :: s, b :: t, h1, h2 => by
   have n1 : ¬ Op.bytesLess (a :: s) (b :: t) = true := by rw [h1]; simp
   have n2 : ¬ Op.bytesLess (b :: t) (a :: s) = true := by rw [h2]; simp
   rw [less_cons] at n1 n2
   have e : a = b := UInt8.toNat_inj.1 (by omega)
   subst e
   rw [less_total s t (by by_cases h : Op.bytesLess s t = true; exact absurd (Or.inr ⟨rfl, h⟩) n1; simpa using h) (by by_cases h : Op.bytesLess t s = true; exact absurd (Or.inr ⟨rfl, h⟩) n2; simpa using h)]
def ltb (a b : ByteArray) : Bool := Op.bytesLess a.toList b.toList
theorem toList_inj {a b : ByteArray} (h : a.toList = b.toList) : a = b := by
 rw [Lib.toList_data, Lib.toList_data] at h
 cases a; cases b
 simp only [ByteArray.mk.injEq]
 exact Array.toList_inj.1 h
theorem ltb_irrefl (a : ByteArray) : ltb a a = false := less_irrefl _
theorem ltb_trans {a b c : ByteArray} (h : ltb a b = true) (k : ltb b c = true) : ltb a c = true := less_trans _ _ _ h k
theorem ltb_asymm {a b : ByteArray} (h : ltb a b = true) : ltb b a = false := by
 by_cases k : ltb b a = true
 · have := ltb_trans h k; rw [ltb_irrefl] at this; cases this
 · simpa using k
theorem ltb_total {a b : ByteArray} (h : ltb a b = false) (k : ltb b a = false) : a = b := toList_inj (less_total _ _ h k)
theorem ltb_cases (a b : ByteArray) : ltb a b = true ∨ a = b ∨ ltb b a = true := by
 by_cases h : ltb a b = true
 · exact .inl h
 · by_cases k : ltb b a = true
   · exact .inr (.inr k)
   · exact .inr (.inl (ltb_total (by simpa using h) (by simpa using k)))
theorem ltb_ne {a b : ByteArray} (h : ltb a b = true) : a ≠ b := fun e => by rw [e, ltb_irrefl] at h; cases h
abbrev PIt (α : Type) := ByteArray × α
section
variable {α : Type}
def Srt (l : List (PIt α)) : Prop := l.Pairwise fun x y => ltb x.1 y.1 = true
def lo (k : ByteArray) (l : List (PIt α)) : List (PIt α) := l.filter fun x => ltb x.1 k
def hi (k : ByteArray) (l : List (PIt α)) : List (PIt α) := l.filter fun x => ltb k x.1
def ins (k : ByteArray) (v : α) (l : List (PIt α)) : List (PIt α) := lo k l ++ (k, v) :: hi k l
def get (k : ByteArray) (l : List (PIt α)) : Option α := (l.find? fun x => !(ltb x.1 k) && !(ltb k x.1)).map (·.2)
theorem lo_of {k : ByteArray} {l : List (PIt α)} (h : ∀ x ∈ l, ltb x.1 k = true) : lo k l = l := List.filter_eq_self.2 h
theorem hi_of {k : ByteArray} {l : List (PIt α)} (h : ∀ x ∈ l, ltb k x.1 = true) : hi k l = l := List.filter_eq_self.2 h
theorem lo_none {k : ByteArray} {l : List (PIt α)} (h : ∀ x ∈ l, ltb k x.1 = true) : lo k l = [] := List.filter_eq_nil_iff.2 fun x hx => by rw [ltb_asymm (h x hx)]; simp
theorem hi_none {k : ByteArray} {l : List (PIt α)} (h : ∀ x ∈ l, ltb x.1 k = true) : hi k l = [] := List.filter_eq_nil_iff.2 fun x hx => by rw [ltb_asymm (h x hx)]; simp
theorem lo_append (k : ByteArray) (a b : List (PIt α)) : lo k (a ++ b) = lo k a ++ lo k b := List.filter_append ..
theorem hi_append (k : ByteArray) (a b : List (PIt α)) : hi k (a ++ b) = hi k a ++ hi k b := List.filter_append ..
theorem ins_mid {k : ByteArray} {v : α} {P m S : List (PIt α)} (hP : ∀ x ∈ P, ltb x.1 k = true) (hS : ∀ x ∈ S, ltb k x.1 = true) : ins k v (P ++ (m ++ S)) = P ++ (ins k v m ++ S) := by
 unfold ins
 simp [lo_append, hi_append, lo_of hP, hi_none hP, lo_none hS, hi_of hS]
theorem ins_at {k : ByteArray} {u v : α} {P S : List (PIt α)} (hP : ∀ x ∈ P, ltb x.1 k = true) (hS : ∀ x ∈ S, ltb k x.1 = true) : ins k v (P ++ (k, u) :: S) = P ++ (k, v) :: S := by
 have : ins k v (P ++ ([(k, u)] ++ S)) = P ++ (ins k v [(k, u)] ++ S) := ins_mid hP hS
 rw [List.singleton_append] at this
 rw [this]
 simp [ins, lo, hi, ltb_irrefl]
theorem ins_new {k : ByteArray} {v : α} {P S : List (PIt α)} (hP : ∀ x ∈ P, ltb x.1 k = true) (hS : ∀ x ∈ S, ltb k x.1 = true) : ins k v (P ++ S) = P ++ (k, v) :: S := by
 have : ins k v (P ++ ([] ++ S)) = P ++ (ins k v [] ++ S) := ins_mid hP hS
 rw [List.nil_append] at this
 rw [this]
 simp [ins, lo, hi]
theorem get_skip {k : ByteArray} {P m : List (PIt α)} (hP : ∀ x ∈ P, ltb x.1 k = true) : get k (P ++ m) = get k m := by
 unfold get
 rw [List.find?_append, List.find?_eq_none.2 (fun x hx => by rw [hP x hx]; simp)]
 rfl
theorem get_cut {k : ByteArray} {m S : List (PIt α)} (hS : ∀ x ∈ S, ltb k x.1 = true) : get k (m ++ S) = get k m := by
 unfold get
 rw [List.find?_append, List.find?_eq_none.2 (fun x (hx : x ∈ S) => by rw [hS x hx]; simp)]
 simp
theorem get_mid {k : ByteArray} {P m S : List (PIt α)} (hP : ∀ x ∈ P, ltb x.1 k = true) (hS : ∀ x ∈ S, ltb k x.1 = true) : get k (P ++ (m ++ S)) = get k m := by rw [get_skip hP, get_cut hS]
theorem get_at {k : ByteArray} {u : α} {P S : List (PIt α)} (hP : ∀ x ∈ P, ltb x.1 k = true) : get k (P ++ (k, u) :: S) = some u := by
 rw [get_skip hP]
 simp [get, ltb_irrefl]
theorem get_new {k : ByteArray} {P S : List (PIt α)} (hP : ∀ x ∈ P, ltb x.1 k = true) (hS : ∀ x ∈ S, ltb k x.1 = true) : get k (P ++ S) = none := by
 rw [get_skip hP]
 have : get k ([] ++ S) = get k [] := get_cut hS
 exact this
theorem Srt.lo {l : List (PIt α)} (h : Srt l) (k : ByteArray) : Srt (lo k l) := List.Pairwise.filter _ h
theorem Srt.hi {l : List (PIt α)} (h : Srt l) (k : ByteArray) : Srt (hi k l) := List.Pairwise.filter _ h
theorem mem_lo {k : ByteArray} {l : List (PIt α)} {x : PIt α} : x ∈ lo k l ↔ x ∈ l ∧ ltb x.1 k = true := List.mem_filter
theorem mem_hi {k : ByteArray} {l : List (PIt α)} {x : PIt α} : x ∈ hi k l ↔ x ∈ l ∧ ltb k x.1 = true := List.mem_filter
theorem Srt.ins {l : List (PIt α)} (h : Srt l) (k : ByteArray) (v : α) : Srt (ins k v l) := by
 unfold Srt YtalmanfjiblhcaaGreat.ins
 rw [List.pairwise_append, List.pairwise_cons]
 refine ⟨h.lo k, ⟨fun y hy => (mem_hi.1 hy).2, h.hi k⟩, fun x hx y hy => ?_⟩
 rcases List.mem_cons.1 hy with rfl | hy
 · exact (mem_lo.1 hx).2
 · exact ltb_trans (mem_lo.1 hx).2 (mem_hi.1 hy).2
theorem Srt.about {l : List (PIt α)} (h : Srt l) (k : ByteArray) : l = YtalmanfjiblhcaaGreat.lo k l ++ YtalmanfjiblhcaaGreat.hi k l ∧ get k l = none ∨ ∃ u, l = YtalmanfjiblhcaaGreat.lo k l ++ (k, u) :: YtalmanfjiblhcaaGreat.hi k l ∧ get k l = some u := by
 induction l with
 | nil => exact .inl ⟨rfl, rfl⟩
 | cons x l ih =>
   have hx := (List.pairwise_cons.1 h).1
   have hl : Srt l := (List.pairwise_cons.1 h).2
   rcases ltb_cases x.1 k with c | c | c
   · have e1 : YtalmanfjiblhcaaGreat.lo k (x :: l) = x :: YtalmanfjiblhcaaGreat.lo k l := List.filter_cons_of_pos (by simpa using c)
     have e2 : YtalmanfjiblhcaaGreat.hi k (x :: l) = YtalmanfjiblhcaaGreat.hi k l := List.filter_cons_of_neg (by rw [ltb_asymm c]; simp)
     have e3 : get k (x :: l) = get k l := get_skip (P := [x]) (m := l) (by simpa using c)
     rw [e1, e2, e3]
     rcases ih hl with ⟨a, b⟩ | ⟨u, a, b⟩
     · exact .inl ⟨by rw [List.cons_append, ← a], b⟩
     · exact .inr ⟨u, by rw [List.cons_append, ← a], b⟩
   · have ha : ∀ y ∈ l, ltb k y.1 = true := fun y hy => c ▸ hx y hy
     obtain ⟨x1, x2⟩ := x
     obtain rfl : x1 = k := c
     have e1 : YtalmanfjiblhcaaGreat.lo x1 ((x1, x2) :: l) = [] := by
      rw [YtalmanfjiblhcaaGreat.lo, List.filter_cons_of_neg (by simp [ltb_irrefl])]; exact lo_none ha
     have e2 : YtalmanfjiblhcaaGreat.hi x1 ((x1, x2) :: l) = l := by
      rw [YtalmanfjiblhcaaGreat.hi, List.filter_cons_of_neg (by simp [ltb_irrefl])]; exact hi_of ha
     rw [e1, e2]
     exact .inr ⟨x2, rfl, get_at (P := []) (by simp)⟩
   · have ha : ∀ y ∈ x :: l, ltb k y.1 = true := fun y hy => by
      rcases List.mem_cons.1 hy with rfl | hy
      · exact c
      · exact ltb_trans c (hx y hy)
     rw [lo_none ha, hi_of ha]
     exact .inl ⟨rfl, get_new (P := []) (by simp) ha⟩
def weave : List (PIt α) → List (List (PIt α)) → List (PIt α)
 | [], ls => ls.flatten
 | x :: its, [] => x :: weave its []
 | x :: its, l :: ls => l ++ x :: weave its ls
def pre : List (PIt α) → List (List (PIt α)) → List (PIt α)
 | x :: I, l :: L => l ++ x :: pre I L
 | _, _ => []
def suf : List (PIt α) → List (List (PIt α)) → List (PIt α)
 | x :: I, l :: L => x :: (l ++ suf I L)
 | _, _ => []
theorem weave_nil : ∀ its : List (PIt α), weave its [] = its
 | [] => rfl
 | x :: its => by rw [weave, weave_nil its]
theorem weave_from : ∀ (I : List (PIt α)) (l : List (PIt α)) (L : List (List (PIt α))), I.length = L.length → weave I (l :: L) = l ++ suf I L
 | [], l, [], _ => by simp [weave, suf]
 | x :: I, l, m :: L, h => by
   rw [weave, weave_from I m L (by simpa using h), suf]
theorem weave_at : ∀ (I1 I2 : List (PIt α)) (L1 : List (List (PIt α))) (l : List (PIt α)) (L2 : List (List (PIt α))), I1.length = L1.length → I2.length = L2.length → weave (I1 ++ I2) (L1 ++ l :: L2) = pre I1 L1 ++ (l ++ suf I2 L2)
 | [], I2, [], l, L2, _, h => by simpa [pre] using weave_from I2 l L2 h
 | x :: I1, I2, m :: L1, l, L2, h1, h2 => by
   have := weave_at I1 I2 L1 l L2 (by simpa using h1) h2
   simp only [List.cons_append, weave, pre, this, List.append_assoc]
theorem suf_cons (x : PIt α) (l : List (PIt α)) (I : List (PIt α)) (L : List (List (PIt α))) : suf (x :: I) (l :: L) = x :: (l ++ suf I L) := rfl
theorem pre_lt {k : ByteArray} : ∀ (I : List (PIt α)) (L : List (List (PIt α))), Srt (pre I L) → (∀ x ∈ I, ltb x.1 k = true) → ∀ y ∈ pre I L, ltb y.1 k = true
 | [], _, _, _ => by simp [pre]
 | _ :: _, [], _, _ => by simp [pre]
 | x :: I, l :: L, h, hk => by
   intro y hy
   simp only [pre] at h hy
   have hp := List.pairwise_append.1 h
   rcases List.mem_append.1 hy with hy | hy
   · exact ltb_trans (hp.2.2 y hy x (by simp)) (hk x (by simp))
   · rcases List.mem_cons.1 hy with rfl | hy
     · exact hk _ (by simp)
     · exact pre_lt I L (List.pairwise_cons.1 hp.2.1).2 (fun z hz => hk z (by simp [hz])) y hy
theorem suf_gt {k : ByteArray} : ∀ (I : List (PIt α)) (L : List (List (PIt α))), Srt (suf I L) → (∀ x ∈ I, ltb k x.1 = true) → ∀ y ∈ suf I L, ltb k y.1 = true
 | [], _, _, _ => by simp [suf]
 | _ :: _, [], _, _ => by simp [suf]
 | x :: I, l :: L, h, hk => by
   intro y hy
   simp only [suf] at h hy
   have hp := List.pairwise_cons.1 h
   rcases List.mem_cons.1 hy with rfl | hy
   · exact hk _ (by simp)
   · rcases List.mem_append.1 hy with hy1 | hy1
     · exact ltb_trans (hk x (by simp)) (hp.1 y hy)
     · exact suf_gt I L (List.pairwise_append.1 hp.2).2.1 (fun z hz => hk z (by simp [hz])) y hy1
theorem weave_sub : ∀ (I : List (PIt α)) (L : List (List (PIt α))), List.Sublist I (weave I L)
 | [], _ => List.nil_sublist _
 | x :: I, [] => by rw [weave, weave_nil]; exact List.Sublist.refl _
 | x :: I, l :: L => by
   rw [weave]
   exact ((weave_sub I L).cons_cons x).trans (List.sublist_append_right _ _)
theorem Srt.items {I : List (PIt α)} {L : List (List (PIt α))} (h : Srt (weave I L)) : Srt I := List.Pairwise.sublist (weave_sub I L) h
def Found (its : List (PIt α)) (k : ByteArray) (i : Nat) (b : Bool) : Prop :=
 ∃ I1 I2, its = I1 ++ I2 ∧ I1.length = i ∧ (∀ x ∈ I1, ltb x.1 k = true) ∧ ((b = true ∧ ∃ u I3, I2 = (k, u) :: I3 ∧ ∀ x ∈ I3, ltb k x.1 = true) ∨ (b = false ∧ ∀ x ∈ I2, ltb k x.1 = true))
theorem found_of {its : List (PIt α)} (h : Srt its) (k : ByteArray) (i : Nat) (hi : i ≤ its.length) (h1 : ∀ j x, j < i → its[j]? = some x → ltb x.1 k = true) (h2 : ∀ x, its[i]? = some x → ltb x.1 k = false) :
 Found its k i (its[i]?.any fun x => !(ltb k x.1)) := by
 refine ⟨its.take i, its.drop i, (List.take_append_drop i its).symm, by rw [List.length_take]; omega, fun x hx => ?_, ?_⟩
 · obtain ⟨j, e⟩ := List.mem_iff_getElem?.1 hx
   rw [List.getElem?_take] at e
   by_cases hj : j < i
   · rw [if_pos hj] at e
     exact h1 j x hj e
   · rw [if_neg hj] at e; cases e
 · have hd : Srt (its.drop i) := List.Pairwise.sublist (List.drop_sublist i its) h
   cases hc : its.drop i with
   | nil =>
     have : its[i]? = none := by
      rw [List.getElem?_eq_none]
      have := congrArg List.length hc
      simp at this; omega
     exact .inr ⟨by rw [this]; rfl, by simp⟩
   | cons x r =>
     have e : its[i]? = some x := by
      have : (its.drop i)[0]? = some x := by rw [hc]; rfl
      rwa [List.getElem?_drop, Nat.add_zero] at this
     rw [e]
     rw [hc] at hd
     have hx := (List.pairwise_cons.1 hd).1
     have hn := h2 x e
     rcases ltb_cases x.1 k with c | c | c
     · rw [hn] at c; cases c
     · obtain ⟨x1, x2⟩ := x
       obtain rfl : x1 = k := c
       exact .inl ⟨by simp [ltb_irrefl], x2, r, rfl, hx⟩
     · refine .inr ⟨by simp [c], fun y hy => ?_⟩
       rcases List.mem_cons.1 hy with rfl | hy
       · exact c
       · exact ltb_trans c (hx y hy)
end
structure Vl where
 a : Option Addr
 n : Nat
 c : Nat
abbrev vz : Vl := ⟨none, 0, 0⟩
abbrev It := PIt Vl
theorem compare_ltb (a b : ByteArray) : (compareBytes a.data.toList b.data.toList < 0 ↔ ltb a b = true) ∧ (compareBytes a.data.toList b.data.toList = 0 ↔ a = b) := by
 unfold ltb
 rw [Lib.toList_data, Lib.toList_data]
 have h : ∀ s t : List UInt8, (compareBytes s t < 0 ↔ Op.bytesLess s t = true) ∧ (compareBytes s t = 0 ↔ s = t) := by
  intro s
  induction s with
  | nil => intro t; cases t <;> simp [compareBytes, Op.bytesLess]
  | cons x s ih =>
    intro t
    cases t with
    | nil => simp [compareBytes, Op.bytesLess]
    | cons y t =>
      have := ih t
      rcases Nat.lt_trichotomy x.toNat y.toNat with c | c | c
      · have h1 : x < y := UInt8.lt_iff_toNat_lt.2 c
        have h2 : x ≠ y := fun e => by rw [e] at c; omega
        simp [compareBytes, Op.bytesLess, h1, h2]
      · have e : x = y := UInt8.toNat_inj.1 c
        subst e
        simp [compareBytes, Op.bytesLess, this]
      · have h1 : ¬ x < y := fun e => by have := UInt8.lt_iff_toNat_lt.1 e; omega
        have h2 : x ≠ y := fun e => by rw [e] at c; omega
        have h3 : y < x := UInt8.lt_iff_toNat_lt.2 c
        simp [compareBytes, Op.bytesLess, h1, h2, h3]
 refine ⟨(h _ _).1, (h _ _).2.trans ⟨fun e => toList_inj (by rw [Lib.toList_data, Lib.toList_data]; exact e), fun e => by rw [e]⟩⟩
end Go.Proofs.YtalmanfjiblhcaaGreat
