/- Plain facts: lists of keys with values in order; nodes woven of such lists. No program is in it; Nodes in memory: all of them in one store; what is theirs, and what stays; Rows of elements of any size: copy, clear; regions that draw their order, by hand; slices.Delete and slices.Clone at items; slices.Delete and slices.Clone at children; tree.takeAt: an element taken out of a node's items, of its children; node.find: a key among a node's items, by halves; A node's small calls: find, child, hasTooMany, hasTooFew, canSpare. -/
import Derived.Lib.Small
import Derived.Lib.Strings
import Derived.Lib.Bytealg
import GoSem.Op.String
import Derived.Test.YtagamkahfiackaaGreatDoorChecked
import Derived.WalkKit
import Derived.WalkSpells
import Derived.WalkLawsBesides
import Derived.OwnWalk
import Derived.Lib.QuietBelow
import Derived.Lib.Hide
import Derived.Deep.RegionWith
import Derived.Deep.WholeRow
import Derived.Deep.LoopGhost
import Derived.Deep.MidRow
import Derived.Deep.OwnRows
import Derived.Deep.RegionHeld
import Derived.Deep.RegionHeld3
import Derived.Laws.ResultCell
import Derived.Laws.CopyOwn
import Derived.Lib.AppendZerosOnto
import Derived.Lib.Overlaps
import Derived.Lib.SliceRun
import Derived.Maps.AppendAt
import Derived.Deep.AppendLies
import Derived.BigQuiet
import Derived.Deep.RegionLaw
namespace Go.Proofs.YtagamkahfiackaaGreatDoor
open Go.Lib

/-! ### Texts in order -/
theorem less_irrefl : ∀ s, Op.bytesLess s s = false
  | [] => rfl
  | a :: s => by simp [Op.bytesLess, less_irrefl s]
theorem less_cons {a b : UInt8} {x y : List UInt8} : Op.bytesLess (a :: x) (b :: y) = true ↔ a.toNat < b.toNat ∨ (a = b ∧ Op.bytesLess x y = true) := by
  simp [Op.bytesLess, UInt8.lt_iff_toNat_lt]
theorem less_trans : ∀ s t u, Op.bytesLess s t = true → Op.bytesLess t u = true → Op.bytesLess s u = true
  | [], [], _, h, _ => by simp [Op.bytesLess] at h
  | _ :: _, [], _, h, _ => by simp [Op.bytesLess] at h
  | [], _ :: _, [], _, h => by simp [Op.bytesLess] at h
  | _ :: _, _ :: _, [], _, h => by simp [Op.bytesLess] at h
  | [], _ :: _, _ :: _, _, _ => by simp [Op.bytesLess]
  | a :: s, b :: t, c :: u, h1, h2 => by
    rw [less_cons] at *
    rcases h1 with h1 | ⟨rfl, h1⟩ <;> rcases h2 with h2 | ⟨rfl, h2⟩
    · left; omega
    · left; omega
    · left; omega
    · right; exact ⟨rfl, less_trans s t u h1 h2⟩
theorem less_total : ∀ s t, Op.bytesLess s t = false → Op.bytesLess t s = false → s = t
  | [], [], _, _ => rfl
  | [], _ :: _, h, _ => by simp [Op.bytesLess] at h
  | _ :: _, [], _, h => by simp [Op.bytesLess] at h
  | a :: s, b :: t, h1, h2 => by
    have n1 : ¬ Op.bytesLess (a :: s) (b :: t) = true := by rw [h1]; simp
    have n2 : ¬ Op.bytesLess (b :: t) (a :: s) = true := by rw [h2]; simp
    rw [less_cons] at n1 n2
    have e : a = b := UInt8.toNat_inj.1 (by omega)
    subst e
    rw [less_total s t (by by_cases h : Op.bytesLess s t = true; exact absurd (Or.inr ⟨rfl, h⟩) n1; simpa using h) (by by_cases h : Op.bytesLess t s = true; exact absurd (Or.inr ⟨rfl, h⟩) n2; simpa using h)]
/-- A text ahead of another one. -/
def ltb (a b : ByteArray) : Bool := Op.bytesLess a.toList b.toList
theorem toList_inj {a b : ByteArray} (h : a.toList = b.toList) : a = b := by
  rw [Lib.toList_data, Lib.toList_data] at h
  cases a; cases b
  simp only [ByteArray.mk.injEq]
  exact Array.toList_inj.1 h
theorem ltb_irrefl (a : ByteArray) : ltb a a = false := less_irrefl _
theorem ltb_trans {a b c : ByteArray} (h : ltb a b = true) (k : ltb b c = true) : ltb a c = true := less_trans _ _ _ h k
theorem ltb_asymm {a b : ByteArray} (h : ltb a b = true) : ltb b a = false := by
  by_cases k : ltb b a = true
  · have := ltb_trans h k; rw [ltb_irrefl] at this; cases this
  · simpa using k
theorem ltb_total {a b : ByteArray} (h : ltb a b = false) (k : ltb b a = false) : a = b := toList_inj (less_total _ _ h k)
theorem ltb_cases (a b : ByteArray) : ltb a b = true ∨ a = b ∨ ltb b a = true := by
  by_cases h : ltb a b = true
  · exact .inl h
  · by_cases k : ltb b a = true
    · exact .inr (.inr k)
    · exact .inr (.inl (ltb_total (by simpa using h) (by simpa using k)))
theorem ltb_ne {a b : ByteArray} (h : ltb a b = true) : a ≠ b := fun e => by rw [e, ltb_irrefl] at h; cases h

/-! ### Keys with values -/
abbrev PIt (α : Type) := ByteArray × α
section
variable {α : Type}
def Srt (l : List (PIt α)) : Prop := l.Pairwise fun x y => ltb x.1 y.1 = true
def lo (k : ByteArray) (l : List (PIt α)) : List (PIt α) := l.filter fun x => ltb x.1 k
def hi (k : ByteArray) (l : List (PIt α)) : List (PIt α) := l.filter fun x => ltb k x.1
/-- A key put, a key dropped, a key's value. -/
def ins (k : ByteArray) (v : α) (l : List (PIt α)) : List (PIt α) := lo k l ++ (k, v) :: hi k l
def del (k : ByteArray) (l : List (PIt α)) : List (PIt α) := lo k l ++ hi k l
def get (k : ByteArray) (l : List (PIt α)) : Option α := (l.find? fun x => !(ltb x.1 k) && !(ltb k x.1)).map (·.2)
theorem lo_of {k : ByteArray} {l : List (PIt α)} (h : ∀ x ∈ l, ltb x.1 k = true) : lo k l = l := List.filter_eq_self.2 h
theorem hi_of {k : ByteArray} {l : List (PIt α)} (h : ∀ x ∈ l, ltb k x.1 = true) : hi k l = l := List.filter_eq_self.2 h
theorem lo_none {k : ByteArray} {l : List (PIt α)} (h : ∀ x ∈ l, ltb k x.1 = true) : lo k l = [] := List.filter_eq_nil_iff.2 fun x hx => by rw [ltb_asymm (h x hx)]; simp
theorem hi_none {k : ByteArray} {l : List (PIt α)} (h : ∀ x ∈ l, ltb x.1 k = true) : hi k l = [] := List.filter_eq_nil_iff.2 fun x hx => by rw [ltb_asymm (h x hx)]; simp
theorem lo_append (k : ByteArray) (a b : List (PIt α)) : lo k (a ++ b) = lo k a ++ lo k b := List.filter_append ..
theorem hi_append (k : ByteArray) (a b : List (PIt α)) : hi k (a ++ b) = hi k a ++ hi k b := List.filter_append ..
theorem ins_mid {k : ByteArray} {v : α} {P m S : List (PIt α)} (hP : ∀ x ∈ P, ltb x.1 k = true) (hS : ∀ x ∈ S, ltb k x.1 = true) : ins k v (P ++ (m ++ S)) = P ++ (ins k v m ++ S) := by
  unfold ins
  simp [lo_append, hi_append, lo_of hP, hi_none hP, lo_none hS, hi_of hS]
theorem del_mid {k : ByteArray} {P m S : List (PIt α)} (hP : ∀ x ∈ P, ltb x.1 k = true) (hS : ∀ x ∈ S, ltb k x.1 = true) : del k (P ++ (m ++ S)) = P ++ (del k m ++ S) := by
  unfold del
  simp [lo_append, hi_append, lo_of hP, hi_none hP, lo_none hS, hi_of hS]
theorem ins_at {k : ByteArray} {u v : α} {P S : List (PIt α)} (hP : ∀ x ∈ P, ltb x.1 k = true) (hS : ∀ x ∈ S, ltb k x.1 = true) : ins k v (P ++ (k, u) :: S) = P ++ (k, v) :: S := by
  have : ins k v (P ++ ([(k, u)] ++ S)) = P ++ (ins k v [(k, u)] ++ S) := ins_mid hP hS
  rw [List.singleton_append] at this
  rw [this]
  simp [ins, lo, hi, ltb_irrefl]
theorem del_at {k : ByteArray} {u : α} {P S : List (PIt α)} (hP : ∀ x ∈ P, ltb x.1 k = true) (hS : ∀ x ∈ S, ltb k x.1 = true) : del k (P ++ (k, u) :: S) = P ++ S := by
  have : del k (P ++ ([(k, u)] ++ S)) = P ++ (del k [(k, u)] ++ S) := del_mid hP hS
  rw [List.singleton_append] at this
  rw [this]
  simp [del, lo, hi, ltb_irrefl]
theorem ins_new {k : ByteArray} {v : α} {P S : List (PIt α)} (hP : ∀ x ∈ P, ltb x.1 k = true) (hS : ∀ x ∈ S, ltb k x.1 = true) : ins k v (P ++ S) = P ++ (k, v) :: S := by
  have : ins k v (P ++ ([] ++ S)) = P ++ (ins k v [] ++ S) := ins_mid hP hS
  rw [List.nil_append] at this
  rw [this]
  simp [ins, lo, hi]
theorem del_new {k : ByteArray} {P S : List (PIt α)} (hP : ∀ x ∈ P, ltb x.1 k = true) (hS : ∀ x ∈ S, ltb k x.1 = true) : del k (P ++ S) = P ++ S := by
  have : del k (P ++ ([] ++ S)) = P ++ (del k [] ++ S) := del_mid hP hS
  rw [List.nil_append] at this
  rw [this]
  simp [del, lo, hi]
theorem get_skip {k : ByteArray} {P m : List (PIt α)} (hP : ∀ x ∈ P, ltb x.1 k = true) : get k (P ++ m) = get k m := by
  unfold get
  rw [List.find?_append, List.find?_eq_none.2 (fun x hx => by rw [hP x hx]; simp)]
  rfl
theorem get_cut {k : ByteArray} {m S : List (PIt α)} (hS : ∀ x ∈ S, ltb k x.1 = true) : get k (m ++ S) = get k m := by
  unfold get
  rw [List.find?_append, List.find?_eq_none.2 (fun x (hx : x ∈ S) => by rw [hS x hx]; simp)]
  simp
theorem get_mid {k : ByteArray} {P m S : List (PIt α)} (hP : ∀ x ∈ P, ltb x.1 k = true) (hS : ∀ x ∈ S, ltb k x.1 = true) : get k (P ++ (m ++ S)) = get k m := by rw [get_skip hP, get_cut hS]
theorem get_nil (k : ByteArray) : get k ([] : List (PIt α)) = none := rfl
theorem get_at {k : ByteArray} {u : α} {P S : List (PIt α)} (hP : ∀ x ∈ P, ltb x.1 k = true) : get k (P ++ (k, u) :: S) = some u := by
  rw [get_skip hP]
  simp [get, ltb_irrefl]
theorem get_new {k : ByteArray} {P S : List (PIt α)} (hP : ∀ x ∈ P, ltb x.1 k = true) (hS : ∀ x ∈ S, ltb k x.1 = true) : get k (P ++ S) = none := by
  rw [get_skip hP]
  have : get k ([] ++ S) = get k [] := get_cut hS
  exact this
theorem Srt.lo {l : List (PIt α)} (h : Srt l) (k : ByteArray) : Srt (lo k l) := List.Pairwise.filter _ h
theorem Srt.hi {l : List (PIt α)} (h : Srt l) (k : ByteArray) : Srt (hi k l) := List.Pairwise.filter _ h
theorem mem_lo {k : ByteArray} {l : List (PIt α)} {x : PIt α} : x ∈ lo k l ↔ x ∈ l ∧ ltb x.1 k = true := List.mem_filter
theorem mem_hi {k : ByteArray} {l : List (PIt α)} {x : PIt α} : x ∈ hi k l ↔ x ∈ l ∧ ltb k x.1 = true := List.mem_filter
theorem Srt.ins {l : List (PIt α)} (h : Srt l) (k : ByteArray) (v : α) : Srt (ins k v l) := by
  unfold Srt YtagamkahfiackaaGreatDoor.ins
  rw [List.pairwise_append, List.pairwise_cons]
  refine ⟨h.lo k, ⟨fun y hy => (mem_hi.1 hy).2, h.hi k⟩, fun x hx y hy => ?_⟩
  rcases List.mem_cons.1 hy with rfl | hy
  · exact (mem_lo.1 hx).2
  · exact ltb_trans (mem_lo.1 hx).2 (mem_hi.1 hy).2
theorem Srt.del {l : List (PIt α)} (h : Srt l) (k : ByteArray) : Srt (del k l) := by
  unfold Srt YtagamkahfiackaaGreatDoor.del
  rw [List.pairwise_append]
  exact ⟨h.lo k, h.hi k, fun x hx y hy => ltb_trans (mem_lo.1 hx).2 (mem_hi.1 hy).2⟩
/-- A list in order, about a key. -/
theorem Srt.about {l : List (PIt α)} (h : Srt l) (k : ByteArray) : l = YtagamkahfiackaaGreatDoor.lo k l ++ YtagamkahfiackaaGreatDoor.hi k l ∧ get k l = none ∨ ∃ u, l = YtagamkahfiackaaGreatDoor.lo k l ++ (k, u) :: YtagamkahfiackaaGreatDoor.hi k l ∧ get k l = some u := by
  induction l with
  | nil => exact .inl ⟨rfl, rfl⟩
  | cons x l ih =>
    have hx := (List.pairwise_cons.1 h).1
    have hl : Srt l := (List.pairwise_cons.1 h).2
    rcases ltb_cases x.1 k with c | c | c
    · have e1 : YtagamkahfiackaaGreatDoor.lo k (x :: l) = x :: YtagamkahfiackaaGreatDoor.lo k l := List.filter_cons_of_pos (by simpa using c)
      have e2 : YtagamkahfiackaaGreatDoor.hi k (x :: l) = YtagamkahfiackaaGreatDoor.hi k l := List.filter_cons_of_neg (by rw [ltb_asymm c]; simp)
      have e3 : get k (x :: l) = get k l := get_skip (P := [x]) (m := l) (by simpa using c)
      rw [e1, e2, e3]
      rcases ih hl with ⟨a, b⟩ | ⟨u, a, b⟩
      · exact .inl ⟨by rw [List.cons_append, ← a], b⟩
      · exact .inr ⟨u, by rw [List.cons_append, ← a], b⟩
    · have ha : ∀ y ∈ l, ltb k y.1 = true := fun y hy => c ▸ hx y hy
      obtain ⟨x1, x2⟩ := x
      obtain rfl : x1 = k := c
      have e1 : YtagamkahfiackaaGreatDoor.lo x1 ((x1, x2) :: l) = [] := by
        rw [YtagamkahfiackaaGreatDoor.lo, List.filter_cons_of_neg (by simp [ltb_irrefl])]; exact lo_none ha
      have e2 : YtagamkahfiackaaGreatDoor.hi x1 ((x1, x2) :: l) = l := by
        rw [YtagamkahfiackaaGreatDoor.hi, List.filter_cons_of_neg (by simp [ltb_irrefl])]; exact hi_of ha
      rw [e1, e2]
      exact .inr ⟨x2, rfl, get_at (P := []) (by simp)⟩
    · have ha : ∀ y ∈ x :: l, ltb k y.1 = true := fun y hy => by
        rcases List.mem_cons.1 hy with rfl | hy
        · exact c
        · exact ltb_trans c (hx y hy)
      rw [lo_none ha, hi_of ha]
      exact .inl ⟨rfl, get_new (P := []) (by simp) ha⟩

/-! ### Nodes -/
def weave : List (PIt α) → List (List (PIt α)) → List (PIt α)
  | [], ls => ls.flatten
  | x :: its, [] => x :: weave its []
  | x :: its, l :: ls => l ++ x :: weave its ls
def pre : List (PIt α) → List (List (PIt α)) → List (PIt α)
  | x :: I, l :: L => l ++ x :: pre I L
  | _, _ => []
def suf : List (PIt α) → List (List (PIt α)) → List (PIt α)
  | x :: I, l :: L => x :: (l ++ suf I L)
  | _, _ => []
theorem weave_nil : ∀ its : List (PIt α), weave its [] = its
  | [] => rfl
  | x :: its => by rw [weave, weave_nil its]
theorem weave_from : ∀ (I : List (PIt α)) (l : List (PIt α)) (L : List (List (PIt α))), I.length = L.length → weave I (l :: L) = l ++ suf I L
  | [], l, [], _ => by simp [weave, suf]
  | x :: I, l, m :: L, h => by
    rw [weave, weave_from I m L (by simpa using h), suf]
theorem weave_at : ∀ (I1 I2 : List (PIt α)) (L1 : List (List (PIt α))) (l : List (PIt α)) (L2 : List (List (PIt α))), I1.length = L1.length → I2.length = L2.length → weave (I1 ++ I2) (L1 ++ l :: L2) = pre I1 L1 ++ (l ++ suf I2 L2)
  | [], I2, [], l, L2, _, h => by simpa [pre] using weave_from I2 l L2 h
  | x :: I1, I2, m :: L1, l, L2, h1, h2 => by
    have := weave_at I1 I2 L1 l L2 (by simpa using h1) h2
    simp only [List.cons_append, weave, pre, this, List.append_assoc]
theorem pre_append : ∀ (I J : List (PIt α)) (L M : List (List (PIt α))), I.length = L.length → pre (I ++ J) (L ++ M) = pre I L ++ pre J M
  | [], J, [], M, _ => by simp [pre]
  | x :: I, J, l :: L, M, h => by
    simp only [List.cons_append, pre, pre_append I J L M (by simpa using h), List.append_assoc]
theorem suf_append : ∀ (I J : List (PIt α)) (L M : List (List (PIt α))), I.length = L.length → suf (I ++ J) (L ++ M) = suf I L ++ suf J M
  | [], J, [], M, _ => by simp [suf]
  | x :: I, J, l :: L, M, h => by
    simp only [List.cons_append, suf, suf_append I J L M (by simpa using h), List.append_assoc]
theorem pre_nil : pre ([] : List (PIt α)) [] = [] := rfl
theorem suf_nil : suf ([] : List (PIt α)) [] = [] := rfl
theorem pre_one (x : PIt α) (l : List (PIt α)) : pre [x] [l] = l ++ [x] := rfl
theorem suf_one (x : PIt α) (l : List (PIt α)) : suf [x] [l] = x :: l := by simp [suf]
theorem suf_cons (x : PIt α) (l : List (PIt α)) (I : List (PIt α)) (L : List (List (PIt α))) : suf (x :: I) (l :: L) = x :: (l ++ suf I L) := rfl
theorem pre_lt {k : ByteArray} : ∀ (I : List (PIt α)) (L : List (List (PIt α))), Srt (pre I L) → (∀ x ∈ I, ltb x.1 k = true) → ∀ y ∈ pre I L, ltb y.1 k = true
  | [], _, _, _ => by simp [pre]
  | _ :: _, [], _, _ => by simp [pre]
  | x :: I, l :: L, h, hk => by
    intro y hy
    simp only [pre] at h hy
    have hp := List.pairwise_append.1 h
    rcases List.mem_append.1 hy with hy | hy
    · exact ltb_trans (hp.2.2 y hy x (by simp)) (hk x (by simp))
    · rcases List.mem_cons.1 hy with rfl | hy
      · exact hk _ (by simp)
      · exact pre_lt I L (List.pairwise_cons.1 hp.2.1).2 (fun z hz => hk z (by simp [hz])) y hy
theorem suf_gt {k : ByteArray} : ∀ (I : List (PIt α)) (L : List (List (PIt α))), Srt (suf I L) → (∀ x ∈ I, ltb k x.1 = true) → ∀ y ∈ suf I L, ltb k y.1 = true
  | [], _, _, _ => by simp [suf]
  | _ :: _, [], _, _ => by simp [suf]
  | x :: I, l :: L, h, hk => by
    intro y hy
    simp only [suf] at h hy
    have hp := List.pairwise_cons.1 h
    rcases List.mem_cons.1 hy with rfl | hy
    · exact hk _ (by simp)
    · rcases List.mem_append.1 hy with hy1 | hy1
      · exact ltb_trans (hk x (by simp)) (hp.1 y hy)
      · exact suf_gt I L (List.pairwise_append.1 hp.2).2.1 (fun z hz => hk z (by simp [hz])) y hy1
theorem weave_sub : ∀ (I : List (PIt α)) (L : List (List (PIt α))), List.Sublist I (weave I L)
  | [], _ => List.nil_sublist _
  | x :: I, [] => by rw [weave, weave_nil]; exact List.Sublist.refl _
  | x :: I, l :: L => by
    rw [weave]
    exact ((weave_sub I L).cons_cons x).trans (List.sublist_append_right _ _)
theorem Srt.items {I : List (PIt α)} {L : List (List (PIt α))} (h : Srt (weave I L)) : Srt I := List.Pairwise.sublist (weave_sub I L) h

/-! ### Where a key stands among items in order -/
/-- i items stand ahead of the key; b: the next one has it. -/
def Found (its : List (PIt α)) (k : ByteArray) (i : Nat) (b : Bool) : Prop :=
  ∃ I1 I2, its = I1 ++ I2 ∧ I1.length = i ∧ (∀ x ∈ I1, ltb x.1 k = true) ∧ ((b = true ∧ ∃ u I3, I2 = (k, u) :: I3 ∧ ∀ x ∈ I3, ltb k x.1 = true) ∨ (b = false ∧ ∀ x ∈ I2, ltb k x.1 = true))
theorem found_of {its : List (PIt α)} (h : Srt its) (k : ByteArray) (i : Nat) (hi : i ≤ its.length) (h1 : ∀ j x, j < i → its[j]? = some x → ltb x.1 k = true) (h2 : ∀ x, its[i]? = some x → ltb x.1 k = false) :
    Found its k i (its[i]?.any fun x => !(ltb k x.1)) := by
  refine ⟨its.take i, its.drop i, (List.take_append_drop i its).symm, by rw [List.length_take]; omega, fun x hx => ?_, ?_⟩
  · obtain ⟨j, e⟩ := List.mem_iff_getElem?.1 hx
    rw [List.getElem?_take] at e
    by_cases hj : j < i
    · rw [if_pos hj] at e
      exact h1 j x hj e
    · rw [if_neg hj] at e; cases e
  · have hd : Srt (its.drop i) := List.Pairwise.sublist (List.drop_sublist i its) h
    cases hc : its.drop i with
    | nil =>
      have : its[i]? = none := by
        rw [List.getElem?_eq_none]
        have := congrArg List.length hc
        simp at this; omega
      exact .inr ⟨by rw [this]; rfl, by simp⟩
    | cons x r =>
      have e : its[i]? = some x := by
        have : (its.drop i)[0]? = some x := by rw [hc]; rfl
        rwa [List.getElem?_drop, Nat.add_zero] at this
      rw [e]
      rw [hc] at hd
      have hx := (List.pairwise_cons.1 hd).1
      have hn := h2 x e
      rcases ltb_cases x.1 k with c | c | c
      · rw [hn] at c; cases c
      · obtain ⟨x1, x2⟩ := x
        obtain rfl : x1 = k := c
        exact .inl ⟨by simp [ltb_irrefl], x2, r, rfl, hx⟩
      · refine .inr ⟨by simp [c], fun y hy => ?_⟩
        rcases List.mem_cons.1 hy with rfl | hy
        · exact c
        · exact ltb_trans c (hx y hy)
end
/-- A slice: what a tree of chains has as its values. -/
structure Vl where
  a : Option Addr
  n : Nat
  c : Nat
/-- The zero value. -/
abbrev vz : Vl := ⟨none, 0, 0⟩
abbrev It := PIt Vl
/-- Go's Compare of two texts. -/
theorem compare_ltb (a b : ByteArray) : (compareBytes a.data.toList b.data.toList < 0 ↔ ltb a b = true) ∧ (compareBytes a.data.toList b.data.toList = 0 ↔ a = b) := by
  unfold ltb
  rw [Lib.toList_data, Lib.toList_data]
  have h : ∀ s t : List UInt8, (compareBytes s t < 0 ↔ Op.bytesLess s t = true) ∧ (compareBytes s t = 0 ↔ s = t) := by
    intro s
    induction s with
    | nil => intro t; cases t <;> simp [compareBytes, Op.bytesLess]
    | cons x s ih =>
      intro t
      cases t with
      | nil => simp [compareBytes, Op.bytesLess]
      | cons y t =>
        have := ih t
        rcases Nat.lt_trichotomy x.toNat y.toNat with c | c | c
        · have h1 : x < y := UInt8.lt_iff_toNat_lt.2 c
          have h2 : x ≠ y := fun e => by rw [e] at c; omega
          simp [compareBytes, Op.bytesLess, h1, h2]
        · have e : x = y := UInt8.toNat_inj.1 c
          subst e
          simp [compareBytes, Op.bytesLess, this]
        · have h1 : ¬ x < y := fun e => by have := UInt8.lt_iff_toNat_lt.1 e; omega
          have h2 : x ≠ y := fun e => by rw [e] at c; omega
          have h3 : y < x := UInt8.lt_iff_toNat_lt.2 c
          simp [compareBytes, Op.bytesLess, h1, h2, h3]
  refine ⟨(h _ _).1, (h _ _).2.trans ⟨fun e => toList_inj (by rw [Lib.toList_data, Lib.toList_data]; exact e), fun e => by rw [e]⟩⟩
end Go.Proofs.YtagamkahfiackaaGreatDoor

namespace Go.Proofs.YtagamkahfiackaaGreatDoor
open Go.RowKit Go.Sort

theorem blk_lt {w : World} {k : Nat} {o : Obj} (h : w.heap[k]? = some o) : k < w.heap.size := (Array.getElem?_eq_some_iff.1 h).1
theorem cell_of {w : World} {k o : Nat} {c : Array Value} {t : TypeId} {z : Nat × Nat} {v : Value} (h : w.heap[k]? = some (.cells c t z)) (hv : c[o]? = some v) : w.cell? ⟨k, o, none⟩ = some v := by
  simp [World.cell?, h, hv]
theorem frozen_of {w : World} {k o : Nat} {c : Array Value} {t : TypeId} (h : w.heap[k]? = some (.cells c t (0, 0))) : w.frozen? ⟨k, o, none⟩ = false := by
  simp [World.frozen?, h]
theorem heap_set {w : World} {k o : Nat} {c : Array Value} {t : TypeId} {z : Nat × Nat} (v : Value) (h : w.heap[k]? = some (.cells c t z)) : (w.setCell ⟨k, o, none⟩ v).heap[k]? = some (.cells (c.setIfInBounds o v) t z) := by
  simp [World.setCell, Array.getElem?_modify, h]
theorem heap_far {w : World} {k b o : Nat} (v : Value) (h : k ≠ b) : (w.setCell ⟨b, o, none⟩ v).heap[k]? = w.heap[k]? := Deep.blk_setCell_other w ⟨b, o, none⟩ v k h
theorem size_set (w : World) (a : Addr) (v : Value) : (w.setCell a v).heap.size = w.heap.size := by simp [World.setCell]
theorem below_step {W w w' : World} (h : Below W.heap.size W w) (hb : Below w.heap.size w w') : Below W.heap.size W w' := h.trans (hb.mono h.size)
theorem below_drew (W : World) : Below W.heap.size W W.drew := (Below.refl _ _).drew
theorem below_drewN {W w : World} (h : Below W.heap.size W w) (n : Nat) : Below W.heap.size W (w.drewN n) := below_step h ⟨rfl, rfl, rfl, Nat.le_refl _, fun _ _ => rfl⟩
theorem below_alloc (w : World) (o : Obj) : Below w.heap.size w (w.alloc o) := (Below.refl _ _).alloc (Nat.le_refl _) _
theorem new_blk (w : World) (o : Obj) : (w.alloc o).heap[w.heap.size]? = some o := by
  show (w.heap.push o)[w.heap.size]? = some o
  simp
theorem wraps_i64 (n : Int) (h0 : -9223372036854775808 ≤ n) (h1 : n ≤ 9223372036854775807) : IntKind.i64.wrap n = n := by rw [IntKind.wrap_i64]; omega
/-- A pointer to a block. -/
def pt (b : Nat) : Value := .pointer (some ⟨b, 0, none⟩)
def intOf : Value → Int | .int _ q => q | _ => 0
/-- A load and a store whose outcome is known. -/
theorem wpList_load_at {ops : Array Oper} {rest : List Oper} {op : Oper} {a : Act} {w : World} {Q : Exit → Act → World → Prop} (hgd : op.guard = none) (ty : TypeId) (x : Operand) (ho : op.op = .load ty x)
    (p v : Value) (hx : a.eval x = p) (hr : (Instr.loadAt ty p).run Tryz.prog w = .ok v w) (h : wpList Tryz.prog ops Q rest (a.put op.dst v) w) : wpList Tryz.prog ops Q (op :: rest) a w :=
  wpList_plain hgd fun _ hK => by
    unfold Oper.wp execOp
    simp only [ho, hx, hr, Sem.run_bind, Sem.run_pure, Result.andThen_ok]
    exact hK _ _ h
theorem wpList_store_at {ops : Array Oper} {rest : List Oper} {op : Oper} {a : Act} {w w' : World} {Q : Exit → Act → World → Prop} (hgd : op.guard = none) (ty : TypeId) (x y : Operand) (ho : op.op = .store ty x y)
    (p v : Value) (hx : a.eval x = p) (hy : a.eval y = v) (hr : (Instr.storeAt ty p v).run Tryz.prog w = .ok () w') (h : wpList Tryz.prog ops Q rest (a.put op.dst undef) w') : wpList Tryz.prog ops Q (op :: rest) a w :=
  wpList_plain hgd fun _ hK => by
    unfold Oper.wp execOp
    simp only [ho, hx, hy, hr, Sem.run_bind, Sem.run_pure, Result.andThen_ok]
    exact hK _ _ h
theorem results_cell {fn : Func} {p : Tmp} {ty : TypeId} (h : fn.results = #[.cell p ty]) (tmps : Array Value) (w : World) :
    (results fn tmps).run Tryz.prog w = ((asAddr (tmps.getD p undef)).run Tryz.prog w).andThen fun a w₁ => ((loadVar ty a).run Tryz.prog w₁).andThen fun v w₂ => .ok v w₂ := by
  simp only [results, h]
  simp [Sem.run_bind, Result.andThen]
  split
  · split <;> assumption
  · rfl

/-! ### Rows -/
/-- Items and nodes as cells. -/
def cI (l : List It) : List Value := l.flatMap fun x => [.string x.1, .slice x.2.a x.2.n x.2.c]
def cP (l : List Nat) : List Value := l.map fun q => .pointer (some ⟨q, 0, none⟩)
theorem cI_nil : cI [] = [] := rfl
theorem cI_cons (x : It) (l : List It) : cI (x :: l) = .string x.1 :: .slice x.2.a x.2.n x.2.c :: cI l := rfl
theorem cI_append (a b : List It) : cI (a ++ b) = cI a ++ cI b := by simp [cI]
theorem cP_append (a b : List Nat) : cP (a ++ b) = cP a ++ cP b := by simp [cP]
theorem cI_len : ∀ l : List It, (cI l).length = l.length * 2
  | [] => rfl
  | x :: l => by rw [cI_cons, List.length_cons, List.length_cons, cI_len l, List.length_cons]; omega
theorem cP_len (l : List Nat) : (cP l).length = l.length * 1 := by simp [cP]
theorem cI_one (l : List It) : ∀ u ∈ cI l, u.oneCell' = true := by
  intro u hu
  obtain ⟨x, _, hx⟩ := List.mem_flatMap.1 hu
  rcases List.mem_cons.1 hx with rfl | hx
  · rfl
  · rw [List.mem_singleton.1 hx]; rfl
theorem cP_one (l : List Nat) : ∀ u ∈ cP l, u.oneCell' = true := by
  intro u hu
  obtain ⟨x, _, rfl⟩ := List.mem_map.1 hu
  rfl
theorem cI_take : ∀ (l : List It) (i : Nat), (cI l).take (i * 2) = cI (l.take i)
  | [], i => by simp [cI]
  | x :: l, 0 => by simp [cI]
  | x :: l, i + 1 => by rw [cI_cons, show (i + 1) * 2 = i * 2 + 1 + 1 by omega, List.take_succ_cons, List.take_succ_cons, cI_take l i, List.take_succ_cons, cI_cons]
theorem cI_drop : ∀ (l : List It) (i : Nat), (cI l).drop (i * 2) = cI (l.drop i)
  | [], i => by simp [cI]
  | x :: l, 0 => by simp [cI]
  | x :: l, i + 1 => by rw [cI_cons, show (i + 1) * 2 = i * 2 + 1 + 1 by omega, List.drop_succ_cons, List.drop_succ_cons, cI_drop l i, List.drop_succ_cons]
theorem cP_take (l : List Nat) (i : Nat) : (cP l).take (i * 1) = cP (l.take i) := by rw [Nat.mul_one, cP, cP, List.map_take]
theorem cP_drop (l : List Nat) (i : Nat) : (cP l).drop (i * 1) = cP (l.drop i) := by rw [Nat.mul_one, cP, cP, List.map_drop]
theorem cI_get : ∀ (l : List It) (i : Nat) (x : It), l[i]? = some x → (cI l)[i * 2]? = some (.string x.1) ∧ (cI l)[i * 2 + 1]? = some (.slice x.2.a x.2.n x.2.c)
  | [], i, x, h => by simp at h
  | y :: l, 0, x, h => by simp at h; subst h; exact ⟨rfl, rfl⟩
  | y :: l, i + 1, x, h => by
    have := cI_get l i x (by simpa using h)
    rw [cI_cons, show (i + 1) * 2 = i * 2 + 1 + 1 by omega]
    simpa using this
theorem cP_get (l : List Nat) (i q : Nat) (h : l[i]? = some q) : (cP l)[i]? = some (pt q) := by simp [cP, h, pt]
def RowI (w : World) (v : Value) (l : List It) : Prop := w.ownsRow 0 99 2 v l.length (cI l)
def RowP (w : World) (v : Value) (l : List Nat) : Prop := w.ownsRow 0 82 1 v l.length (cP l)
theorem row_keep {w w' : World} {base e s n : Nat} {v : Value} {xs : List Value} (h : w.ownsRow base e s v n xs) (hk : ∀ g, v.ownBlock = some g → w'.heap[g]? = w.heap[g]?) : w'.ownsRow base e s v n xs := by
  refine ⟨h.1, ?_⟩
  rcases h.2 with h1 | ⟨g, cap, cur, rfl, h1, h2, h3⟩
  · exact .inl h1
  · exact .inr ⟨g, cap, cur, rfl, h1, (hk g rfl).trans h2, h3⟩
theorem row_block {w : World} {base e s n : Nat} {v : Value} {xs : List Value} (h : w.ownsRow base e s v n xs) {g : Nat} (hg : v.ownBlock = some g) : ∃ cur, w.heap[g]? = some (.cells cur e (0, 0)) := by
  rcases h.2 with ⟨e1, _⟩ | ⟨g', cap, cur, e1, h1, h2, _⟩
  · rw [e1] at hg; cases hg
  · rw [e1] at hg
    simp only [Value.ownBlock, Option.some.injEq] at hg
    subst hg
    exact ⟨cur, h2⟩
theorem row_shape {w : World} {base e s n : Nat} {v : Value} {xs : List Value} (h : w.ownsRow base e s v n xs) : ∃ a c, v = .slice a n c ∧ (a = none → n = 0 ∧ c = 0) ∧ (∀ ad, a = some ad → ∃ g, ad = ⟨g, 0, none⟩) ∧ n ≤ c ∧ c ≤ maxLen := by
  rcases h.2 with ⟨rfl, rfl⟩ | ⟨g, cap, cur, rfl, _, _, h1, h2, _⟩
  · exact ⟨none, 0, rfl, fun _ => ⟨rfl, rfl⟩, fun ad e => (by cases e), Nat.le_refl _, by unfold maxLen; omega⟩
  · exact ⟨_, cap, rfl, fun e => (by cases e), fun ad e => by cases e; exact ⟨g, rfl⟩, h1, h2⟩
theorem row_on {w w' : World} {base e s n : Nat} {v : Value} {xs : List Value} (h : w.ownsRow base e s v n xs) (hb : Below w.heap.size w w') : w'.ownsRow base e s v n xs :=
  row_keep h fun g hg => by obtain ⟨cur, hc⟩ := row_block h hg; exact hb.block g (blk_lt hc)
/-- Blocks of two types are two. -/
theorem kind_ne {w : World} {k k' : Nat} {c c' : Array Value} {t t' : TypeId} {z z' : Nat × Nat} (h : w.heap[k]? = some (.cells c t z)) (h' : w.heap[k']? = some (.cells c' t' z')) (ht : t ≠ t') : k ≠ k' := fun e => by
  subst e
  rw [h] at h'
  simp only [Option.some.injEq, Obj.cells.injEq] at h'
  exact ht h'.2.1

/-! ### The store -/
structure Nd where
  its : List It
  ks : List Nat
  iv : Value
  cv : Value
structure Store (w : World) (M : Nat → Option Nd) : Prop where
  blk : ∀ q n, M q = some n → w.heap[q]? = some (.cells #[n.iv, n.cv] 103 (0, 0))
  its : ∀ q n, M q = some n → RowI w n.iv n.its
  ks : ∀ q n, M q = some n → RowP w n.cv n.ks
  apI : ∀ q q' n n' g, M q = some n → M q' = some n' → n.iv.ownBlock = some g → n'.iv.ownBlock = some g → q = q'
  apC : ∀ q q' n n' g, M q = some n → M q' = some n' → n.cv.ownBlock = some g → n'.cv.ownBlock = some g → q = q'
/-- What is a store's own. -/
def Own (M : Nat → Option Nd) (k : Nat) : Prop := ∃ q n, M q = some n ∧ (k = q ∨ n.iv.ownBlock = some k ∨ n.cv.ownBlock = some k)
/-- All but these blocks stays; what is one's own then was so, or is new. -/
structure Ext (O O' : Nat → Prop) (w w' : World) : Prop where
  os : w'.os = w.os
  tape : w'.tape = w.tape
  output : w'.output = w.output
  size : w.heap.size ≤ w'.heap.size
  block : ∀ k, k < w.heap.size → ¬ O k → w'.heap[k]? = w.heap[k]?
  new : ∀ k, O' k → O k ∨ w.heap.size ≤ k
theorem Ext.refl (O : Nat → Prop) (w : World) : Ext O O w w := ⟨rfl, rfl, rfl, Nat.le_refl _, fun _ _ _ => rfl, fun _ h => .inl h⟩
theorem Ext.trans {O O' O'' : Nat → Prop} {w w' w'' : World} (h : Ext O O' w w') (k : Ext O' O'' w' w'') : Ext O O'' w w'' := by
  refine ⟨k.os.trans h.os, k.tape.trans h.tape, k.output.trans h.output, Nat.le_trans h.size k.size, fun i hi hn => ?_, fun i hi => ?_⟩
  · refine (k.block i (Nat.lt_of_lt_of_le hi h.size) fun hm => ?_).trans (h.block i hi hn)
    rcases h.new i hm with q | q
    · exact hn q
    · omega
  · rcases k.new i hi with q | q
    · exact h.new i q
    · exact .inr (Nat.le_trans h.size q)
theorem Ext.of_below {w w' : World} (O : Nat → Prop) (h : Below w.heap.size w w') : Ext O O w w' := ⟨h.os, h.tape, h.output, h.size, fun k hk _ => h.block k hk, fun _ h => .inl h⟩
theorem Ext.stays {O O' : Nat → Prop} {w w' : World} (h : Ext O O' w w') {k : Nat} {o : Obj} (hk : w.heap[k]? = some o) (hn : ¬ O k) : w'.heap[k]? = some o ∧ ¬ O' k :=
  ⟨(h.block k (blk_lt hk) hn).trans hk, fun q => by rcases h.new k q with q | q; exact hn q; have := blk_lt hk; omega⟩
theorem Store.lt {w : World} {M : Nat → Option Nd} (h : Store w M) {k : Nat} (hk : Own M k) : k < w.heap.size := by
  obtain ⟨q, n, hq, rfl | e | e⟩ := hk
  · exact blk_lt (h.blk _ _ hq)
  · obtain ⟨c, hc⟩ := row_block (h.its _ _ hq) e; exact blk_lt hc
  · obtain ⟨c, hc⟩ := row_block (h.ks _ _ hq) e; exact blk_lt hc
theorem Store.node_lt {w : World} {M : Nat → Option Nd} (h : Store w M) {q : Nat} {n : Nd} (hq : M q = some n) : q < w.heap.size := blk_lt (h.blk q n hq)
theorem Store.fresh {w : World} {M : Nat → Option Nd} (h : Store w M) {q : Nat} (hq : w.heap.size ≤ q) : M q = none := by
  cases e : M q with
  | none => rfl
  | some n => have := h.node_lt e; omega
theorem Store.not_own {w : World} {M : Nat → Option Nd} (h : Store w M) {k : Nat} (hk : w.heap.size ≤ k) : ¬ Own M k := fun o => by have := h.lt o; omega
theorem Store.keep {w w' : World} {M : Nat → Option Nd} (h : Store w M) (hk : ∀ k, Own M k → w'.heap[k]? = w.heap[k]?) : Store w' M :=
  ⟨fun q n hq => (hk q ⟨q, n, hq, .inl rfl⟩).trans (h.blk q n hq), fun q n hq => row_keep (h.its q n hq) fun g hg => hk g ⟨q, n, hq, .inr (.inl hg)⟩, fun q n hq => row_keep (h.ks q n hq) fun g hg => hk g ⟨q, n, hq, .inr (.inr hg)⟩, h.apI, h.apC⟩
theorem Store.on {w w' : World} {M : Nat → Option Nd} (h : Store w M) (hb : Below w.heap.size w w') : Store w' M := h.keep fun k hk => hb.block k (h.lt hk)
theorem Store.drew {w : World} {M : Nat → Option Nd} (h : Store w M) : Store w.drew M := h.on (below_drew w)
theorem Store.alloc {w : World} {M : Nat → Option Nd} (h : Store w M) (o : Obj) : Store (w.alloc o) M := h.on (below_alloc w o)
def upd (M : Nat → Option Nd) (q : Nat) (n : Nd) : Nat → Option Nd := fun k => if k = q then some n else M k
theorem upd_self (M : Nat → Option Nd) (q : Nat) (n : Nd) : upd M q n q = some n := if_pos rfl
theorem upd_other (M : Nat → Option Nd) {q k : Nat} (n : Nd) (h : k ≠ q) : upd M q n k = M k := if_neg h
/-- One node turned. -/
theorem Store.set {w w' : World} {M : Nat → Option Nd} {q : Nat} {n n' : Nd} (h : Store w M) (hq : M q = some n)
    (hb : w'.heap[q]? = some (.cells #[n'.iv, n'.cv] 103 (0, 0))) (hi : RowI w' n'.iv n'.its) (hc : RowP w' n'.cv n'.ks)
    (hf : ∀ k, k < w.heap.size → k ≠ q → n.iv.ownBlock ≠ some k → n.cv.ownBlock ≠ some k → w'.heap[k]? = w.heap[k]?)
    (ni : ∀ k, n'.iv.ownBlock = some k → n.iv.ownBlock = some k ∨ w.heap.size ≤ k) (nc : ∀ k, n'.cv.ownBlock = some k → n.cv.ownBlock = some k ∨ w.heap.size ≤ k) : Store w' (upd M q n') := by
  have hqb := h.blk q n hq
  have notI : ∀ (k : Nat) (c : Array Value) (t : TypeId) (z : Nat × Nat), w.heap[k]? = some (.cells c t z) → t ≠ 99 → n.iv.ownBlock ≠ some k := fun k c t z hk ht e => by
    obtain ⟨cur, hc'⟩ := row_block (h.its q n hq) e
    exact kind_ne hk hc' ht rfl
  have notC : ∀ (k : Nat) (c : Array Value) (t : TypeId) (z : Nat × Nat), w.heap[k]? = some (.cells c t z) → t ≠ 82 → n.cv.ownBlock ≠ some k := fun k c t z hk ht e => by
    obtain ⟨cur, hc'⟩ := row_block (h.ks q n hq) e
    exact kind_ne hk hc' ht rfl
  have old : ∀ p m, p ≠ q → M p = some m → w'.heap[p]? = some (.cells #[m.iv, m.cv] 103 (0, 0)) := fun p m hp hm =>
    (hf p (h.node_lt hm) hp (notI p _ _ _ (h.blk p m hm) (by decide)) (notC p _ _ _ (h.blk p m hm) (by decide))).trans (h.blk p m hm)
  have oldI : ∀ p m, p ≠ q → M p = some m → RowI w' m.iv m.its := fun p m hp hm => row_keep (h.its p m hm) fun g hg => by
    obtain ⟨cur, hg'⟩ := row_block (h.its p m hm) hg
    exact hf g (blk_lt hg') (kind_ne hg' hqb (by decide)) (fun e => hp (h.apI p q m n g hm hq hg e)) (notC g _ _ _ hg' (by decide))
  have oldC : ∀ p m, p ≠ q → M p = some m → RowP w' m.cv m.ks := fun p m hp hm => row_keep (h.ks p m hm) fun g hg => by
    obtain ⟨cur, hg'⟩ := row_block (h.ks p m hm) hg
    exact hf g (blk_lt hg') (kind_ne hg' hqb (by decide)) (notI g _ _ _ hg' (by decide)) (fun e => hp (h.apC p q m n g hm hq hg e))
  have crossI : ∀ p m g, p ≠ q → M p = some m → m.iv.ownBlock = some g → n'.iv.ownBlock = some g → False := fun p m g hp hm hg hg' => by
    rcases ni g hg' with e | e
    · exact hp (h.apI p q m n g hm hq hg e)
    · obtain ⟨cur, hc'⟩ := row_block (h.its p m hm) hg
      have := blk_lt hc'; omega
  have crossC : ∀ p m g, p ≠ q → M p = some m → m.cv.ownBlock = some g → n'.cv.ownBlock = some g → False := fun p m g hp hm hg hg' => by
    rcases nc g hg' with e | e
    · exact hp (h.apC p q m n g hm hq hg e)
    · obtain ⟨cur, hc'⟩ := row_block (h.ks p m hm) hg
      have := blk_lt hc'; omega
  refine ⟨fun p m hm => ?_, fun p m hm => ?_, fun p m hm => ?_, fun p p' m m' g hm hm' hg hg' => ?_, fun p p' m m' g hm hm' hg hg' => ?_⟩
  · by_cases hp : p = q
    · subst hp; rw [upd_self] at hm; cases hm; exact hb
    · rw [upd_other M n' hp] at hm; exact old p m hp hm
  · by_cases hp : p = q
    · subst hp; rw [upd_self] at hm; cases hm; exact hi
    · rw [upd_other M n' hp] at hm; exact oldI p m hp hm
  · by_cases hp : p = q
    · subst hp; rw [upd_self] at hm; cases hm; exact hc
    · rw [upd_other M n' hp] at hm; exact oldC p m hp hm
  · by_cases hp : p = q <;> by_cases hp' : p' = q
    · rw [hp, hp']
    · subst hp; rw [upd_self] at hm; cases hm; rw [upd_other M _ hp'] at hm'; exact (crossI p' m' g hp' hm' hg' hg).elim
    · subst hp'; rw [upd_self] at hm'; cases hm'; rw [upd_other M _ hp] at hm; exact (crossI p m g hp hm hg hg').elim
    · rw [upd_other M _ hp] at hm; rw [upd_other M _ hp'] at hm'; exact h.apI p p' m m' g hm hm' hg hg'
  · by_cases hp : p = q <;> by_cases hp' : p' = q
    · rw [hp, hp']
    · subst hp; rw [upd_self] at hm; cases hm; rw [upd_other M _ hp'] at hm'; exact (crossC p' m' g hp' hm' hg' hg).elim
    · subst hp'; rw [upd_self] at hm'; cases hm'; rw [upd_other M _ hp] at hm; exact (crossC p m g hp hm hg hg').elim
    · rw [upd_other M _ hp] at hm; rw [upd_other M _ hp'] at hm'; exact h.apC p p' m m' g hm hm' hg hg'
theorem own_upd {M : Nat → Option Nd} {q : Nat} {n n' : Nd} {B : Nat} (hq : M q = some n) (ni : ∀ k, n'.iv.ownBlock = some k → n.iv.ownBlock = some k ∨ B ≤ k) (nc : ∀ k, n'.cv.ownBlock = some k → n.cv.ownBlock = some k ∨ B ≤ k) : ∀ k, Own (upd M q n') k → Own M k ∨ B ≤ k := by
  rintro k ⟨p, m, hm, hk⟩
  by_cases hp : p = q
  · subst hp
    rw [upd_self] at hm; cases hm
    rcases hk with rfl | e | e
    · exact .inl ⟨_, n, hq, .inl rfl⟩
    · rcases ni k e with e | e
      · exact .inl ⟨_, n, hq, .inr (.inl e)⟩
      · exact .inr e
    · rcases nc k e with e | e
      · exact .inl ⟨_, n, hq, .inr (.inr e)⟩
      · exact .inr e
  · rw [upd_other M n' hp] at hm
    exact .inl ⟨p, m, hm, hk⟩
/-- A new node. -/
theorem Store.add {w w' : World} {M : Nat → Option Nd} {r : Nat} {n : Nd} (h : Store w M) (hbl : Below w.heap.size w w') (hr : w.heap.size ≤ r)
    (hb : w'.heap[r]? = some (.cells #[n.iv, n.cv] 103 (0, 0))) (hi : RowI w' n.iv n.its) (hc : RowP w' n.cv n.ks)
    (ni : ∀ k, n.iv.ownBlock = some k → w.heap.size ≤ k) (nc : ∀ k, n.cv.ownBlock = some k → w.heap.size ≤ k) : Store w' (upd M r n) ∧ Ext (Own M) (Own (upd M r n)) w w' := by
  have hn := h.fresh hr
  have h' := h.on hbl
  refine ⟨⟨fun p m hm => ?_, fun p m hm => ?_, fun p m hm => ?_, fun p p' m m' g hm hm' hg hg' => ?_, fun p p' m m' g hm hm' hg hg' => ?_⟩, ⟨hbl.os, hbl.tape, hbl.output, hbl.size, fun k hk _ => hbl.block k hk, ?_⟩⟩
  · by_cases hp : p = r
    · subst hp; rw [upd_self] at hm; cases hm; exact hb
    · rw [upd_other M n hp] at hm; exact h'.blk p m hm
  · by_cases hp : p = r
    · subst hp; rw [upd_self] at hm; cases hm; exact hi
    · rw [upd_other M n hp] at hm; exact h'.its p m hm
  · by_cases hp : p = r
    · subst hp; rw [upd_self] at hm; cases hm; exact hc
    · rw [upd_other M n hp] at hm; exact h'.ks p m hm
  · by_cases hp : p = r <;> by_cases hp' : p' = r
    · rw [hp, hp']
    · subst hp; rw [upd_self] at hm; cases hm; rw [upd_other M _ hp'] at hm'
      have := ni g hg; have := h.lt (k := g) ⟨p', m', hm', .inr (.inl hg')⟩; omega
    · subst hp'; rw [upd_self] at hm'; cases hm'; rw [upd_other M _ hp] at hm
      have := ni g hg'; have := h.lt (k := g) ⟨p, m, hm, .inr (.inl hg)⟩; omega
    · rw [upd_other M _ hp] at hm; rw [upd_other M _ hp'] at hm'; exact h.apI p p' m m' g hm hm' hg hg'
  · by_cases hp : p = r <;> by_cases hp' : p' = r
    · rw [hp, hp']
    · subst hp; rw [upd_self] at hm; cases hm; rw [upd_other M _ hp'] at hm'
      have := nc g hg; have := h.lt (k := g) ⟨p', m', hm', .inr (.inr hg')⟩; omega
    · subst hp'; rw [upd_self] at hm'; cases hm'; rw [upd_other M _ hp] at hm
      have := nc g hg'; have := h.lt (k := g) ⟨p, m, hm, .inr (.inr hg)⟩; omega
    · rw [upd_other M _ hp] at hm; rw [upd_other M _ hp'] at hm'; exact h.apC p p' m m' g hm hm' hg hg'
  · rintro k ⟨p, m, hm, hk⟩
    by_cases hp : p = r
    · subst hp; rw [upd_self] at hm; cases hm
      rcases hk with rfl | e | e
      · exact .inr hr
      · exact .inr (ni k e)
      · exact .inr (nc k e)
    · rw [upd_other M n hp] at hm; exact .inl ⟨p, m, hm, hk⟩
/-- A node's items, its children: the row turned, and then stored. -/
def Gone (v v' : Value) (B : Nat) : Prop := ∀ k, v'.ownBlock = some k → v.ownBlock = some k ∨ B ≤ k
theorem Store.putI {w w1 : World} {M : Nat → Option Nd} {q : Nat} {n : Nd} {v' : Value} {its' : List It} (h : Store w M) (hq : M q = some n) (hg : w.grownBy w1 n.iv.ownBlock) (hi : RowI w1 v' its') (hv : Gone n.iv v' w.heap.size) :
    Store (w1.setCell ⟨q, 0, none⟩ v') (upd M q { n with iv := v', its := its' }) ∧ Ext (Own M) (Own (upd M q { n with iv := v', its := its' })) w (w1.setCell ⟨q, 0, none⟩ v') := by
  have hqb := h.blk q n hq
  have hnq : some q ≠ n.iv.ownBlock := fun e => by
    obtain ⟨cur, hc⟩ := row_block (h.its q n hq) e.symm
    exact kind_ne hqb hc (by decide) rfl
  have hqb1 : w1.heap[q]? = some (.cells #[n.iv, n.cv] 103 (0, 0)) := (hg.block q (blk_lt hqb) hnq).trans hqb
  have far : ∀ (g : Nat) (cur : Array Value) (t : TypeId) (z : Nat × Nat), w1.heap[g]? = some (.cells cur t z) → t ≠ 103 → (w1.setCell ⟨q, 0, none⟩ v').heap[g]? = w1.heap[g]? := fun g cur t z hgb ht => heap_far _ (kind_ne hgb hqb1 ht)
  refine ⟨h.set hq (n' := { n with iv := v', its := its' }) ?_ ?_ ?_ ?_ hv (fun k e => .inl e), ⟨hg.os, hg.tape, hg.output, by rw [size_set]; exact hg.size, fun k hk hn => ?_, own_upd hq hv (fun k e => .inl e)⟩⟩
  · have := heap_set (o := 0) v' hqb1
    simpa using this
  · refine row_keep hi fun g e => ?_
    obtain ⟨cur, hc⟩ := row_block hi e
    exact far g _ _ _ hc (by decide)
  · have hC : RowP w1 n.cv n.ks := row_keep (h.ks q n hq) fun g e => by
      obtain ⟨cur, hc⟩ := row_block (h.ks q n hq) e
      refine hg.block g (blk_lt hc) fun e' => ?_
      obtain ⟨cur', hc'⟩ := row_block (h.its q n hq) e'.symm
      exact kind_ne hc hc' (by decide) rfl
    refine row_keep hC fun g e => ?_
    obtain ⟨cur, hc⟩ := row_block hC e
    exact far g _ _ _ hc (by decide)
  · intro k hk hkq hki hkc
    rw [heap_far _ hkq]
    exact hg.block k hk fun e => hki e.symm
  · rw [heap_far _ (show k ≠ q from fun e => hn ⟨q, n, hq, .inl e⟩)]
    exact hg.block k hk fun e => hn ⟨q, n, hq, .inr (.inl e.symm)⟩
theorem Store.putC {w w1 : World} {M : Nat → Option Nd} {q : Nat} {n : Nd} {v' : Value} {ks' : List Nat} (h : Store w M) (hq : M q = some n) (hg : w.grownBy w1 n.cv.ownBlock) (hi : RowP w1 v' ks') (hv : Gone n.cv v' w.heap.size) :
    Store (w1.setCell ⟨q, 1, none⟩ v') (upd M q { n with cv := v', ks := ks' }) ∧ Ext (Own M) (Own (upd M q { n with cv := v', ks := ks' })) w (w1.setCell ⟨q, 1, none⟩ v') := by
  have hqb := h.blk q n hq
  have hnq : some q ≠ n.cv.ownBlock := fun e => by
    obtain ⟨cur, hc⟩ := row_block (h.ks q n hq) e.symm
    exact kind_ne hqb hc (by decide) rfl
  have hqb1 : w1.heap[q]? = some (.cells #[n.iv, n.cv] 103 (0, 0)) := (hg.block q (blk_lt hqb) hnq).trans hqb
  have far : ∀ (g : Nat) (cur : Array Value) (t : TypeId) (z : Nat × Nat), w1.heap[g]? = some (.cells cur t z) → t ≠ 103 → (w1.setCell ⟨q, 1, none⟩ v').heap[g]? = w1.heap[g]? := fun g cur t z hgb ht => heap_far _ (kind_ne hgb hqb1 ht)
  refine ⟨h.set hq (n' := { n with cv := v', ks := ks' }) ?_ ?_ ?_ ?_ (fun k e => .inl e) hv, ⟨hg.os, hg.tape, hg.output, by rw [size_set]; exact hg.size, fun k hk hn => ?_, own_upd hq (fun k e => .inl e) hv⟩⟩
  · have := heap_set (o := 1) v' hqb1
    simpa using this
  · have hC : RowI w1 n.iv n.its := row_keep (h.its q n hq) fun g e => by
      obtain ⟨cur, hc⟩ := row_block (h.its q n hq) e
      refine hg.block g (blk_lt hc) fun e' => ?_
      obtain ⟨cur', hc'⟩ := row_block (h.ks q n hq) e'.symm
      exact kind_ne hc hc' (by decide) rfl
    refine row_keep hC fun g e => ?_
    obtain ⟨cur, hc⟩ := row_block hC e
    exact far g _ _ _ hc (by decide)
  · refine row_keep hi fun g e => ?_
    obtain ⟨cur, hc⟩ := row_block hi e
    exact far g _ _ _ hc (by decide)
  · intro k hk hkq hki hkc
    rw [heap_far _ hkq]
    exact hg.block k hk fun e => hkc e.symm
  · rw [heap_far _ (show k ≠ q from fun e => hn ⟨q, n, hq, .inl e⟩)]
    exact hg.block k hk fun e => hn ⟨q, n, hq, .inr (.inr e.symm)⟩
/-- A node's cells. -/
theorem Store.cells {w : World} {M : Nat → Option Nd} {q : Nat} {n : Nd} (h : Store w M) (hq : M q = some n) : w.cell? ⟨q, 0, none⟩ = some n.iv ∧ w.cell? ⟨q, 1, none⟩ = some n.cv ∧ w.frozen? ⟨q, 0, none⟩ = false ∧ w.frozen? ⟨q, 1, none⟩ = false :=
  ⟨cell_of (h.blk q n hq) rfl, cell_of (h.blk q n hq) rfl, frozen_of (h.blk q n hq), frozen_of (h.blk q n hq)⟩
theorem infoVI : (Tryz.prog.info? 99).map (fun i => (i.zero, i.size, i.bytes)) = some (some (.agg #[.string ⟨#[]⟩, .slice none 0 0]), 2, 40) := by kernel_rfl
theorem infoVP : (Tryz.prog.info? 82).map (fun i => (i.zero, i.size, i.bytes)) = some (some (.pointer none), 1, 8) := by kernel_rfl
theorem infoVN : (Tryz.prog.info? 103).map (fun i => (i.zero, i.size, i.bytes)) = some (some (.agg #[.slice none 0 0, .slice none 0 0]), 2, 48) := by kernel_rfl
theorem infoVT : (Tryz.prog.info? 84).map (fun i => (i.zero, i.size, i.bytes)) = some (some (.agg #[.pointer none, .int .i64 0]), 2, 16) := by kernel_rfl
end Go.Proofs.YtagamkahfiackaaGreatDoor

namespace Go.Proofs.YtagamkahfiackaaGreatDoor
open Go.RowKit Go.Sort

section
variable {P : Program}
theorem run_copy_sz (w : World) (dT sT ty elem : TypeId) (i : TypeInfo) (g o dLen dCap : Nat) (a : Addr) (sLen sCap : Nat) (cur : Array Value) (t : TypeId) (cs : List Value)
    (hu : P.underlying dT = some (.slice elem)) (hi : P.info? elem = some i)
    (hg : w.heap[g]? = some (.cells cur t (0, 0))) (hn : cs.length = Nat.min sLen dLen * i.size)
    (hsrc : ∀ j v, cs[j]? = some v → w.cell? (a.add j) = some v) (hfit : o + cs.length ≤ cur.size) (h1 : ∀ v ∈ cs, v.oneCell' = true) :
    (Builtin.copy_ #[dT, sT] ty #[.slice (some ⟨g, o, none⟩) dLen dCap, .slice (some a) sLen sCap]).run P w =
      .ok (goInt (Nat.min sLen dLen)) (w.setRow g (cur.toList.take o ++ cs ++ cur.toList.drop (o + cs.length)).toArray) := by
  have hl := run_loadCells_list (P := P) w a cs hsrc
  have hst := run_storeCells_at P g o t cs 0 cur w hg (by simpa using hfit) h1
  simp [Builtin.copy_, run_underlying hu, Builtin.lenOf, Builtin.firstCells, sizeOf, typeInfo, hi, ← hn, hl, hst]
theorem run_clear_sz (w : World) (t e ty : TypeId) (z : Value) (ht : P.underlying t = some (.slice e)) (hv : (zeroValue e).run P w = .ok z w) (g o n c : Nat) (hn : 0 < n) (cur : Array Value) (u : TypeId)
    (hg : w.heap[g]? = some (.cells cur u (0, 0))) (zs : List Value) (hz : (Builtin.zeroCells z.cells n).toList = zs) (hfit : o + zs.length ≤ cur.size) (h1 : ∀ v ∈ zs, v.oneCell' = true) :
    (Builtin.clear_ #[t] ty #[.slice (some ⟨g, o, none⟩) n c]).run P w = .ok (.tuple #[]) (w.setRow g (cur.toList.take o ++ zs ++ cur.toList.drop (o + zs.length)).toArray) := by
  have hst := run_storeCells_at P g o u zs 0 cur w hg (by simpa using hfit) h1
  simp only [Nat.add_zero] at hst
  obtain ⟨m, rfl⟩ : ∃ m, n = m + 1 := ⟨n - 1, by omega⟩
  simp [Builtin.clear_, run_underlying ht, hv, hz, hst]
/-- copy, clear, append, where their run is known. -/
theorem wpList_copy_run (w : World) {ops : Array Oper} {rest : List Oper} {o : Oper} {a : Act} {Q : Exit → Act → World → Prop} (hgd : o.guard = none) (d s : Operand) (t t' : TypeId)
    (ho : o.op = .call { callee := .builtin .copy, args := #[d, s], argTypes := #[t, t'] }) (v u : Value) (hd : a.eval d = v) (hs : a.eval s = u) {v' : Value} {w' : World}
    (hr : (Builtin.copy_ #[t, t'] o.type #[v, u]).run P w = .ok v' w') (h : wpList P ops Q rest (a.put o.dst v') w') : wpList P ops Q (o :: rest) a w :=
  wpList_plain hgd fun _ hK => by
    unfold Oper.wp execOp
    simp only [ho, resolve, invoke, builtin, Sem.run_bind, Sem.run_pure, Result.andThen_ok, List.map_toArray, List.map_cons, List.map_nil, hd, hs, hr]
    exact hK _ _ h
theorem wpList_clear_run (w : World) {ops : Array Oper} {rest : List Oper} {o : Oper} {a : Act} {Q : Exit → Act → World → Prop} (hgd : o.guard = none) (d : Operand) (t : TypeId)
    (ho : o.op = .call { callee := .builtin .clear, args := #[d], argTypes := #[t] }) (v : Value) (hd : a.eval d = v) {v' : Value} {w' : World}
    (hr : (Builtin.clear_ #[t] o.type #[v]).run P w = .ok v' w') (h : wpList P ops Q rest (a.put o.dst v') w') : wpList P ops Q (o :: rest) a w :=
  wpList_plain hgd fun _ hK => by
    unfold Oper.wp execOp
    simp only [ho, resolve, invoke, builtin, Sem.run_bind, Sem.run_pure, Result.andThen_ok, List.map_toArray, List.map_cons, List.map_nil, hd, hr]
    exact hK _ _ h
theorem step_copy_run {ops : Array Oper} {o : Oper} {a : Act} {w : World} {K : Act → World → Prop} {Q : Exit → Act → World → Prop} {E : Prop}
    (hg : o.guard = none) (d x : Operand) (dT sT : TypeId) (hop : o.op = Op.call { callee := Callee.builtin Builtin.copy, args := #[d, x], argTypes := #[dT, sT] })
    (v u : Value) (hd : a.eval d = v) (hx : a.eval x = u) {v' : Value} {w' : World} (hr : (Builtin.copy_ #[dT, sT] o.type #[v, u]).run P w = .ok v' w') (hK : K (a.put o.dst v') w') :
    if Region.wanted o (yielded ops a.tmps) = true then Oper.wp P o a w K Q else E := by
  have hw : Region.wanted o (yielded ops a.tmps) = true := by simp [Region.wanted, hg]
  rw [if_pos hw]
  unfold Oper.wp
  simp [execOp, hop, resolve, invoke, builtin, hd, hx, hr, Result.andThen]
  exact hK
theorem step_append_run {ops : Array Oper} {o : Oper} {a : Act} {w : World} {K : Act → World → Prop} {Q : Exit → Act → World → Prop} {E : Prop}
    (hg : o.guard = none) (d x : Operand) (dT sT : TypeId) (hop : o.op = Op.call { callee := Callee.builtin Builtin.append, args := #[d, x], argTypes := #[dT, sT] })
    (v u : Value) (hd : a.eval d = v) (hx : a.eval x = u) {v' : Value} {w' : World} (hr : (Builtin.append_ #[dT, sT] o.type #[v, u]).run P w = .ok v' w') (hK : K (a.put o.dst v') w') :
    if Region.wanted o (yielded ops a.tmps) = true then Oper.wp P o a w K Q else E := by
  have hw : Region.wanted o (yielded ops a.tmps) = true := by simp [Region.wanted, hg]
  rw [if_pos hw]
  unfold Oper.wp
  simp [execOp, hop, resolve, invoke, builtin, hd, hx, hr, Result.andThen]
  exact hK
end
section
variable {P : Program} {l : List Oper} {Q : Exit → Act → World → Prop} {md : Region.Mode} {S : World → Prop}
/-- One operation of a drawn region, taken first: it is found in the list. -/
theorem take_at (i : Nat) (v : Value) {oi : Oper} {post : List Oper} {fuel : Nat} {listed : Array Bool} {a : Act} {w : World} (hi : l.drop i = oi :: post)
    (hs : Region.noSelect l.toArray = true) (hf : Region.free md l.toArray listed i = true) (hr : (Region.ready md l.toArray listed).contains i = true)
    (hQ : ∀ c a w, Q (.panic c) (a.put oi.dst v) w → Q (.panic c) a w) (hy : YieldsIf P l.toArray S oi v a) (hS : S w)
    (h : wpAnyH P md l.toArray Q S fuel (listed.setIfInBounds i true) (a.put oi.dst v) w) : wpAnyH P md l.toArray Q S (fuel + 1) listed a w := by
  refine wpAnyH_take (i := i) ?_ hs hf hr hQ hy hS h
  have h1 : (l.drop i)[0]? = some oi := by rw [hi]; rfl
  rw [List.getElem?_drop, Nat.add_zero] at h1
  simpa using h1
theorem yields_load {ops : Array Oper} {o : Oper} {a : Act} (hw : Region.wanted o (yielded ops a.tmps) = true) (ty : TypeId) (x : Operand) (ho : o.op = .load ty x) (p v : Value) (hx : a.eval x = p)
    (hr : ∀ w, S w → (Instr.loadAt ty p).run P w = .ok v w) : YieldsIf P ops S o v a :=
  .inl ⟨hw, fun w hS => by
    unfold execOp
    simp only [ho, hx, hr w hS, Sem.run_bind, Sem.run_pure, Result.andThen_ok]⟩
/-- The one operation that may come up. -/
theorem ready_at (i : Nat) {oi : Oper} {post : List Oper} {fuel : Nat} {listed : Array Bool} {a : Act} {w w' : World} {v : Value} (hi : l.drop i = oi :: post) (hr : Region.ready md l.toArray listed = [i]) (hw : Region.wanted oi (yielded l.toArray a.tmps) = true)
    (hrun : (execOp a.eval oi).run P w = .ok (.value v) w' ∨ ((execOp a.eval oi).run P w = .ok .skip w' ∧ v = undef)) (hS : S w')
    (h : wpAnyH P md l.toArray Q S fuel (listed.setIfInBounds i true) (a.put oi.dst v) w') : wpAnyH P md l.toArray Q S (fuel + 1) listed a w := by
  have h1 : l.toArray[i]? = some oi := by
    have h1 : (l.drop i)[0]? = some oi := by rw [hi]; rfl
    rw [List.getElem?_drop, Nat.add_zero] at h1
    simpa using h1
  refine wpAnyH_ready hr (by simp) (AllReadyH.cons h1 (fun K hK => ?_) AllReadyH.nil)
  rw [if_pos hw]
  unfold Oper.wp
  rcases hrun with e | ⟨e, rfl⟩
  · rw [e]
    exact hK.out _ _ hS (fun _ => h)
  · rw [e]
    exact hK.out _ _ hS (fun _ => h)
theorem ready_store (i : Nat) {oi : Oper} {post : List Oper} {fuel : Nat} {listed : Array Bool} {a : Act} {w w' : World} (hi : l.drop i = oi :: post) (hr : Region.ready md l.toArray listed = [i]) (hw : Region.wanted oi (yielded l.toArray a.tmps) = true)
    (t : TypeId) (x v : Operand) (ho : oi.op = .store t x v) (xv vv : Value) (hx : a.eval x = xv) (hv : a.eval v = vv) (hrun : (Instr.storeAt t xv vv).run P w = .ok () w') (hS : S w')
    (h : wpAnyH P md l.toArray Q S fuel (listed.setIfInBounds i true) (a.put oi.dst undef) w') : wpAnyH P md l.toArray Q S (fuel + 1) listed a w :=
  ready_at i hi hr hw (.inr ⟨by unfold execOp; simp only [ho, hx, hv, hrun, Sem.run_bind, Sem.run_pure, Result.andThen_ok], rfl⟩) hS h
end
/-- A row of one's own, open. -/
theorem row_open {w : World} {base e s n : Nat} {v : Value} {xs : List Value} (h : w.ownsRow base e s v n xs) (hn : 0 < n) : ∃ g cap cur, v = .slice (some ⟨g, 0, none⟩) n cap ∧ w.heap[g]? = some (.cells cur e (0, 0)) ∧ n ≤ cap ∧ cap ≤ maxLen ∧ cur.size = cap * s ∧ cur.toList.take (n * s) = xs := by
  rcases h.2 with ⟨_, e⟩ | ⟨g, cap, cur, e1, _, h2, h3, h4, h5, h6⟩
  · omega
  · exact ⟨g, cap, cur, e1, h2, h3, h4, h5, h6⟩
theorem row_mk {w : World} {e s n g cap : Nat} {cur : Array Value} {xs : List Value} (h : w.heap[g]? = some (.cells cur e (0, 0))) (hn : n ≤ cap) (hc : cap ≤ maxLen) (hs : cur.size = cap * s) (hx : cur.toList.take (n * s) = xs) : w.ownsRow 0 e s (.slice (some ⟨g, 0, none⟩) n cap) n xs := by
  refine ⟨?_, .inr ⟨g, cap, cur, rfl, Nat.zero_le _, h, hn, hc, hs, hx⟩⟩
  rw [← hx, List.length_take, Array.length_toList, hs]
  exact Nat.min_eq_left (Nat.mul_le_mul_right s hn)
theorem grown_refl (w : World) (row : Option Nat) : w.grownBy w row := ⟨rfl, rfl, rfl, Nat.le_refl _, fun _ _ _ => rfl⟩
theorem grown_trans {w w1 w2 : World} {r : Option Nat} (h : w.grownBy w1 r) (k : w1.grownBy w2 r) : w.grownBy w2 r :=
  ⟨k.os.trans h.os, k.tape.trans h.tape, k.output.trans h.output, Nat.le_trans h.size k.size, fun i hi hn => (k.block i (Nat.lt_of_lt_of_le hi h.size) hn).trans (h.block i hi hn)⟩
theorem grown_below {w w1 : World} (r : Option Nat) (h : Below w.heap.size w w1) : w.grownBy w1 r := ⟨h.os, h.tape, h.output, h.size, fun i hi _ => h.block i hi⟩
theorem grown_drew (w : World) (r : Option Nat) : w.grownBy w.drew r := grown_below r (below_drew w)
theorem grown_setRow (w : World) (g : Nat) (cs : Array Value) : w.grownBy (w.setRow g cs) (some g) := ⟨rfl, rfl, rfl, by simp [World.setRow], fun k _ hn => setRow_other w g k cs fun e => hn (by rw [e])⟩
/-- What stays beside a row. -/
theorem grown_new {w w1 : World} {B : Nat} {r : Option Nat} {g : Nat} (h : w.grownBy w1 r) (hg : B ≤ g) (hB : w.heap.size = B) (cs : Array Value) : w.grownBy (w1.setRow g cs) r :=
  ⟨h.os, h.tape, h.output, by simp [World.setRow]; exact h.size, fun k hk hn => (setRow_other w1 g k cs (by omega)).trans (h.block k hk hn)⟩
theorem row_news {w : World} {b : Nat} {ys : List Value} {t : TypeId} (hy : w.heap[b]? = some (.cells ys.toArray t (0, 0))) : ∀ j u, ys[j]? = some u → w.cell? ((⟨b, 0, none⟩ : Addr).add j) = some u := by
  intro j u hj
  rw [Addr.add_lit, Nat.zero_add]
  exact cell_of hy (by simpa using hj)
/-- Lists that are laid over one another. -/
theorem shift_list {A xs ys : List Value} {i s m : Nat} (hx : A.take m = xs) (hm : xs.length = m) (hi : i ≤ m) (hys : ys.length = s) (hA : m + s ≤ A.length) {A1 A2 : List Value} (h1 : A1 = A.take (i + s) ++ xs.drop i ++ A.drop (i + s + (xs.drop i).length)) (h2 : A2 = A1.take i ++ ys ++ A1.drop (i + ys.length)) :
    A1.length = A.length ∧ A2.length = A.length ∧ A2.take (m + s) = xs.take i ++ (ys ++ xs.drop i) := by
  have hd : (xs.drop i).length = m - i := by rw [List.length_drop, hm]
  have l1 : A1.length = A.length := by
    rw [h1]; simp only [List.length_append, List.length_take, List.length_drop, hd]; omega
  have l2 : A2.length = A.length := by
    rw [h2]; simp only [List.length_append, List.length_take, List.length_drop, l1, hys]; omega
  have e1 : A1.take i = xs.take i := by
    rw [h1, List.append_assoc, List.take_append_of_le_length (by rw [List.length_take]; omega), List.take_take, Nat.min_eq_left (by omega), ← hx, List.take_take, Nat.min_eq_left hi]
  have e2 : A1.drop (i + s) = xs.drop i ++ A.drop (i + s + (xs.drop i).length) := by
    rw [h1, List.append_assoc]
    exact List.drop_left' (by rw [List.length_take]; omega)
  refine ⟨l1, l2, ?_⟩
  rw [h2, e1, hys, e2, List.append_assoc, show m + s = (xs.take i).length + (s + (m - i)) by rw [List.length_take, hm]; omega, List.take_length_add_append, ← hys, List.take_length_add_append, ← hd]
  rw [List.take_left]
theorem grow_list {R xs ys : List Value} {i s m : Nat} (hm : xs.length = m) (hi : i ≤ m) (hys : ys.length = s) (hR : R.take i = xs.take i) (hl : m + s ≤ R.length) {R1 R2 : List Value} (h1 : R1 = R.take i ++ ys ++ R.drop (i + ys.length)) (h2 : R2 = R1.take (i + s) ++ xs.drop i ++ R1.drop (i + s + (xs.drop i).length)) :
    R1.length = R.length ∧ R2.length = R.length ∧ R2.take (m + s) = xs.take i ++ (ys ++ xs.drop i) := by
  have hd : (xs.drop i).length = m - i := by rw [List.length_drop, hm]
  have l1 : R1.length = R.length := by
    rw [h1]; simp only [List.length_append, List.length_take, List.length_drop, hys]; omega
  have l2 : R2.length = R.length := by
    rw [h2]; simp only [List.length_append, List.length_take, List.length_drop, l1, hd]; omega
  have e1 : R1.take (i + s) = xs.take i ++ ys := by
    rw [h1, hR]
    exact List.take_left' (by rw [List.length_append, List.length_take, hys]; omega)
  refine ⟨l1, l2, ?_⟩
  rw [h2, e1, List.append_assoc, List.append_assoc, show m + s = (xs.take i).length + (ys.length + (xs.drop i).length) by rw [List.length_take, hm, hd, hys]; omega, List.take_length_add_append, List.take_length_add_append, List.take_left]
end Go.Proofs.YtagamkahfiackaaGreatDoor

namespace Go.Proofs.YtagamkahfiackaaGreatDoor
open Go.RowKit Go.Sort

/-- What Delete leaves. -/
def DelToI (w : World) (v : Value) (n : Nat) (zs : List Value) (e : Ending) (w' : World) : Prop :=
  ∃ g c, v.ownBlock = some g ∧ e = .returned (.slice (some ⟨g, 0, none⟩) n c) ∧ w'.ownsRow 0 99 2 (.slice (some ⟨g, 0, none⟩) n c) n zs ∧ w.grownBy w' v.ownBlock
theorem zerosI (w : World) : (zeroValue 99).run Tryz.prog w = .ok (.agg #[.string ⟨#[]⟩, .slice none 0 0]) w := by
  obtain ⟨i0, hi0, hz0, hz1, hz2⟩ := info_parts infoVI
  simp [zeroValue, typeInfo, hi0, hz0]
theorem zerosI_one (n : Nat) : ∀ u ∈ (Builtin.zeroCells (Value.cells (.agg #[.string ⟨#[]⟩, .slice none 0 0])) n).toList, u.oneCell' = true := by
  intro u hu
  simp only [Builtin.zeroCells, Array.toList_map, List.mem_map] at hu
  obtain ⟨k, _, rfl⟩ := hu
  have hk : k % (Value.cells (.agg #[.string ⟨#[]⟩, .slice none 0 0])).size < 2 := Nat.mod_lt _ (by decide)
  generalize k % (Value.cells (.agg #[.string ⟨#[]⟩, .slice none 0 0])).size = m at hk
  match m, hk with
  | 0, _ => rfl
  | 1, _ => rfl
set_option maxRecDepth 100000 in
set_option maxHeartbeats 2000000 in
theorem delI_ {w : World} {v : Value} {n i j : Nat} {xs : List Value} (h : w.ownsRow 0 99 2 v n xs) (hij : i < j) (hj : j ≤ n) (hn : n ≤ 1000) (hx1 : ∀ u ∈ xs, u.oneCell' = true) :
    Calls Tryz.prog 71 #[v, .int .i64 i, .int .i64 j] w (DelToI w v (i + (n - j)) (xs.take (i * 2) ++ xs.drop (j * 2))) := by
  obtain ⟨i0, hi0, hz0, hz1, hz2⟩ := info_parts infoVI
  obtain ⟨g, c, cur, rfl, hg, hnc, hcm, hcs, hx⟩ := row_open h (by omega)
  have hxl : xs.length = n * 2 := h.1
  have hcm' : c ≤ 9223372036854775807 := by unfold maxLen at hcm; omega
  have hdl : (xs.drop (j * 2)).length = (n - j) * 2 := by rw [List.length_drop, hxl]; omega
  obtain ⟨A1, hA1⟩ : ∃ A1, A1 = cur.toList.take (i * 2) ++ xs.drop (j * 2) ++ cur.toList.drop (i * 2 + (xs.drop (j * 2)).length) := ⟨_, rfl⟩
  obtain ⟨zs, hzs⟩ : ∃ zs, zs = (Builtin.zeroCells (Value.cells (.agg #[.string ⟨#[]⟩, .slice none 0 0])) (n - (i + (n - j)))).toList := ⟨_, rfl⟩
  have hzl : zs.length = (j - i) * 2 := by
    rw [hzs, Array.length_toList, size_zeroCells, show (Value.cells (.agg #[.string ⟨#[]⟩, .slice none 0 0])).size = 2 from rfl]; congr 1; omega
  obtain ⟨A2, hA2⟩ : ∃ A2, A2 = A1.take ((i + (n - j)) * 2) ++ zs ++ A1.drop ((i + (n - j)) * 2 + zs.length) := ⟨_, rfl⟩
  have l1 : A1.length = c * 2 := by
    rw [hA1]; simp only [List.length_append, List.length_take, List.length_drop, hdl, Array.length_toList, hcs]; omega
  have l2 : A2.length = c * 2 := by
    rw [hA2]; simp only [List.length_append, List.length_take, List.length_drop, l1, hzl]; omega
  have l3 : A2.take ((i + (n - j)) * 2) = xs.take (i * 2) ++ xs.drop (j * 2) := by
    rw [hA2, List.append_assoc, List.take_append_of_le_length (by rw [List.length_take, l1]; omega), List.take_take, Nat.min_self, hA1]
    have e : cur.toList.take (i * 2) = xs.take (i * 2) := by rw [← hx, List.take_take, Nat.min_eq_left (by omega)]
    rw [e]
    exact List.take_left' (by rw [List.length_append, List.length_take, hxl, hdl]; omega)
  obtain ⟨A, hA, hsrc⟩ : ∃ A : Addr, (if c = j then some (⟨g, 0, none⟩ : Addr) else some ⟨g, j * 2, none⟩) = some A ∧ Hid (∀ t u, (xs.drop (j * 2))[t]? = some u → w.drew.cell? (A.add t) = some u) := by
    by_cases hcj : c = j
    · refine ⟨⟨g, 0, none⟩, by simp [hcj], fun t u hu => ?_⟩
      have h0 : (xs.drop (j * 2)).length = 0 := by rw [hdl]; omega
      rw [List.length_eq_zero_iff.1 h0] at hu
      simp at hu
    · refine ⟨⟨g, j * 2, none⟩, by simp [hcj], fun t u hu => ?_⟩
      rw [Addr.add_lit]
      rw [List.getElem?_drop, ← hx, List.getElem?_take] at hu
      split at hu
      · refine cell_of (show w.drew.heap[g]? = _ from hg) ?_
        simpa using hu
      · cases hu
  obtain ⟨W1, hW1⟩ : ∃ W1, W1 = w.drew.setRow g A1.toArray := ⟨_, rfl⟩
  obtain ⟨W2, hW2⟩ : ∃ W2, W2 = W1.setRow g A2.toArray := ⟨_, rfl⟩
  have b1 : W1.heap[g]? = some (.cells A1.toArray 99 (0, 0)) := by rw [hW1]; exact setRow_heap _ _ _ _ _ _ (show w.drew.heap[g]? = _ from hg)
  have b2 : W2.heap[g]? = some (.cells A2.toArray 99 (0, 0)) := by rw [hW2]; exact setRow_heap _ _ _ _ _ _ b1
  have hap : ∀ ty sc, (Builtin.append_ #[100, 100] ty #[.slice (some ⟨g, 0, none⟩) i c, .slice (some A) (n - j) sc]).run Tryz.prog w.drew = .ok (.slice (some ⟨g, 0, none⟩) (i + (n - j)) c) W1 := fun ty sc => by
    have := run_append_room (P := Tryz.prog) w.drew 100 ty 99 i0 Tryz.underlying100 hi0 g i c cur (show w.drew.heap[g]? = _ from hg) A (n - j) sc (xs.drop (j * 2)) (by rw [hdl, hz1]) hsrc.out (fun u hu => hx1 u (List.mem_of_mem_drop hu)) (by omega) (by rw [hz1, hdl, hcs]; omega)
    rw [this, hW1, hA1, hz1]
  have hclr : ∀ ty sc, (Builtin.clear_ #[100] ty #[.slice (some ⟨g, (i + (n - j)) * 2, none⟩) (n - (i + (n - j))) sc]).run Tryz.prog W1 = .ok (.tuple #[]) W2 := fun ty sc => by
    have := run_clear_sz (P := Tryz.prog) W1 100 99 ty (.agg #[.string ⟨#[]⟩, .slice none 0 0]) Tryz.underlying100 (zerosI W1) g ((i + (n - j)) * 2) (n - (i + (n - j))) sc (by omega) A1.toArray 99 b1 zs hzs.symm (by rw [hzl, List.size_toArray, l1]; omega) (by rw [hzs]; exact zerosI_one _)
    rw [this, hW2, hA2]
    try simp only [Nat.mul_one]
  have HZ : Hid (DelToI w (.slice (some ⟨g, 0, none⟩) n c) (i + (n - j)) (xs.take (i * 2) ++ xs.drop (j * 2)) (.returned (.slice (some ⟨g, 0, none⟩) (i + (n - j)) c)) W2) :=
    ⟨g, c, rfl, rfl, row_mk b2 (by omega) hcm (by rw [List.size_toArray, l2]) (by rw [List.toList_toArray, l3]), by rw [hW2, hW1]; exact grown_trans (grown_drew w _) (grown_trans (grown_setRow _ g _) (grown_setRow _ g _))⟩
  have hz2' : ¬ ((i : Int) = (j : Int)) := by omega
  have hic : i ≤ c := by omega
  have hjc : j ≤ c := by omega
  have hin : i ≤ n := by omega
  have hij' : i ≤ j := by omega
  have hk1 : i + (n - j) ≤ n := by omega
  have hk2 : ¬ (c = i + (n - j)) := by omega
  clear hA1 hA2 l1 l2 l3 hdl hzl hzs hg hxl hx hcs hx1 hcm hW1 hW2 b1 b2 h hsrc
  go_enter Tryz.func71, Tryz.ntmps71
  go_wp2_with fail
  go_region_law (refine step_append_run rfl _ _ 100 100 rfl (.slice (some ⟨g, 0, none⟩) i c) (.slice (some A) (n - j) (c - j)) (by simp [Act.eval, Act.put]) (by simp [Act.eval, Act.put]) (hap _ _) ?_)
  go_wp2_with (at_builtin; refine wpList_clear_run _ rfl _ 100 rfl _ rfl (hclr _ _) ?_)
  go_ret
  exact HZ.out
/-- slices.Clone of a piece. -/
def CloToI (w : World) (n : Nat) (zs : List Value) (e : Ending) (w' : World) : Prop :=
  ∃ g c, w.heap.size ≤ g ∧ e = .returned (.slice (some ⟨g, 0, none⟩) n c) ∧ w'.ownsRow 0 99 2 (.slice (some ⟨g, 0, none⟩) n c) n zs ∧ Below w.heap.size w w'
set_option maxRecDepth 100000 in
set_option maxHeartbeats 1000000 in
theorem cloI_ {w : World} (b off n c : Nat) (news : List Value) (hn0 : 0 < n) (hn : n ≤ 1000) (hl : news.length = n * 2) (hc : ∀ j u, news[j]? = some u → w.cell? ⟨b, off + j, none⟩ = some u) (h1 : ∀ u ∈ news, u.oneCell' = true) :
    Calls Tryz.prog 67 #[.slice (some ⟨b, off, none⟩) n c] w (CloToI w n news) := by
  obtain ⟨i0, hi0, hz0, hz1, hz2⟩ := info_parts infoVI
  have q22 : ∀ (w : World) (a : Option Addr) (n c n' c' : Nat), (binOp .eql 100 (.slice a n c) (.slice none n' c')).run Tryz.prog w = .ok (.bool a.isNone) w := fun w a n c n' c' => Lib.run_eql_slice_nil w _ _ a n c n' c' Tryz.underlying100
  have A : Aside (∀ j u, news[j]? = some u → w.cell? ⟨b, off + j, none⟩ = some u) := hc
  clear hc
  go_enter Tryz.func67, Tryz.ntmps67
  go_wp2_with (at_builtin; refine wpList_append_own _ rfl _ _ 100 rfl w.heap.size 99 i0 _ 2 40 Tryz.underlying100 hi0 hz0 hz1 hz2 rfl (by decide) _ _ _ rfl (World.ownsRow_made w #[] 0 (Nat.le_refl _) (Nat.zero_le _) (by simp)) ⟨b, off, none⟩ n c news rfl ?qc1 ?qc2 ?qc3 ?qc4 ?qc5 ?qc6 ?_)
  case qc1 => exact hl
  case qc2 =>
    intro j u hj
    rw [Addr.add_lit]
    exact Lib.cell?_alloc_some _ (A.out j u hj)
  case qc3 => exact h1
  case qc4 => rw [Nat.zero_add]; unfold maxLen; omega
  case qc5 => rw [Nat.zero_add]; omega
  case qc6 => simp
  intro v' w1 hown hgrow hnil
  have hb : Below w.heap.size w w1 := ((Below.refl _ w).alloc (Nat.le_refl _) _).grown hgrow (by simp) (by intro k hk; simp [Value.ownBlock] at hk; omega)
  obtain ⟨g, cap, cur, rfl, h2⟩ : ∃ g cap cur, v' = .slice (some ⟨g, 0, none⟩) n cap ∧ w.heap.size ≤ g ∧ w1.heap[g]? = some (.cells cur 99 (0, 0)) ∧ n ≤ cap ∧ cap ≤ maxLen ∧ cur.size = cap * 2 ∧ cur.toList.take (n * 2) = news := by
    rcases hown.2 with ⟨_, e⟩ | ⟨g, cap, cur, e1, h1, h2⟩
    · omega
    · exact ⟨g, cap, cur, e1, h1, h2⟩
  obtain ⟨h3, h4, h5, h6, h7, h8⟩ := h2
  have HZ : Hid (CloToI w n news (.returned (.slice (some ⟨g, 0, none⟩) n cap)) w1) := ⟨g, cap, h3, rfl, row_mk h4 h5 h6 h7 h8, hb⟩
  clear hb hown hgrow hnil h3 h4 h5 h6 h7 h8 h1 hl
  go_wp2
  go_ret
  exact HZ.out
end Go.Proofs.YtagamkahfiackaaGreatDoor

namespace Go.Proofs.YtagamkahfiackaaGreatDoor
open Go.RowKit Go.Sort

/-- What Delete leaves. -/
def DelToP (w : World) (v : Value) (n : Nat) (zs : List Value) (e : Ending) (w' : World) : Prop :=
  ∃ g c, v.ownBlock = some g ∧ e = .returned (.slice (some ⟨g, 0, none⟩) n c) ∧ w'.ownsRow 0 82 1 (.slice (some ⟨g, 0, none⟩) n c) n zs ∧ w.grownBy w' v.ownBlock
theorem zerosP (w : World) : (zeroValue 82).run Tryz.prog w = .ok (.pointer none) w := by
  obtain ⟨i0, hi0, hz0, hz1, hz2⟩ := info_parts infoVP
  simp [zeroValue, typeInfo, hi0, hz0]
theorem zerosP_one (n : Nat) : ∀ u ∈ (Builtin.zeroCells (Value.cells (.pointer none)) n).toList, u.oneCell' = true := by
  intro u hu
  simp only [Builtin.zeroCells, Array.toList_map, List.mem_map] at hu
  obtain ⟨k, _, rfl⟩ := hu
  have hk : k % (Value.cells (.pointer none)).size < 1 := Nat.mod_lt _ (by decide)
  generalize k % (Value.cells (.pointer none)).size = m at hk
  match m, hk with
  | 0, _ => rfl
set_option maxRecDepth 100000 in
set_option maxHeartbeats 2000000 in
theorem delP_ {w : World} {v : Value} {n i j : Nat} {xs : List Value} (h : w.ownsRow 0 82 1 v n xs) (hij : i < j) (hj : j ≤ n) (hn : n ≤ 1000) (hx1 : ∀ u ∈ xs, u.oneCell' = true) :
    Calls Tryz.prog 69 #[v, .int .i64 i, .int .i64 j] w (DelToP w v (i + (n - j)) (xs.take (i * 1) ++ xs.drop (j * 1))) := by
  obtain ⟨i0, hi0, hz0, hz1, hz2⟩ := info_parts infoVP
  obtain ⟨g, c, cur, rfl, hg, hnc, hcm, hcs, hx⟩ := row_open h (by omega)
  have hxl : xs.length = n * 1 := h.1
  have hcm' : c ≤ 9223372036854775807 := by unfold maxLen at hcm; omega
  have hdl : (xs.drop (j * 1)).length = (n - j) * 1 := by rw [List.length_drop, hxl]; omega
  obtain ⟨A1, hA1⟩ : ∃ A1, A1 = cur.toList.take (i * 1) ++ xs.drop (j * 1) ++ cur.toList.drop (i * 1 + (xs.drop (j * 1)).length) := ⟨_, rfl⟩
  obtain ⟨zs, hzs⟩ : ∃ zs, zs = (Builtin.zeroCells (Value.cells (.pointer none)) (n - (i + (n - j)))).toList := ⟨_, rfl⟩
  have hzl : zs.length = (j - i) * 1 := by
    rw [hzs, Array.length_toList, size_zeroCells, show (Value.cells (.pointer none)).size = 1 from rfl]; congr 1; omega
  obtain ⟨A2, hA2⟩ : ∃ A2, A2 = A1.take ((i + (n - j)) * 1) ++ zs ++ A1.drop ((i + (n - j)) * 1 + zs.length) := ⟨_, rfl⟩
  have l1 : A1.length = c * 1 := by
    rw [hA1]; simp only [List.length_append, List.length_take, List.length_drop, hdl, Array.length_toList, hcs]; omega
  have l2 : A2.length = c * 1 := by
    rw [hA2]; simp only [List.length_append, List.length_take, List.length_drop, l1, hzl]; omega
  have l3 : A2.take ((i + (n - j)) * 1) = xs.take (i * 1) ++ xs.drop (j * 1) := by
    rw [hA2, List.append_assoc, List.take_append_of_le_length (by rw [List.length_take, l1]; omega), List.take_take, Nat.min_self, hA1]
    have e : cur.toList.take (i * 1) = xs.take (i * 1) := by rw [← hx, List.take_take, Nat.min_eq_left (by omega)]
    rw [e]
    exact List.take_left' (by rw [List.length_append, List.length_take, hxl, hdl]; omega)
  obtain ⟨A, hA, hsrc⟩ : ∃ A : Addr, (if c = j then some (⟨g, 0, none⟩ : Addr) else some ⟨g, j, none⟩) = some A ∧ Hid (∀ t u, (xs.drop (j * 1))[t]? = some u → w.drew.cell? (A.add t) = some u) := by
    by_cases hcj : c = j
    · refine ⟨⟨g, 0, none⟩, by simp [hcj], fun t u hu => ?_⟩
      have h0 : (xs.drop (j * 1)).length = 0 := by rw [hdl]; omega
      rw [List.length_eq_zero_iff.1 h0] at hu
      simp at hu
    · refine ⟨⟨g, j, none⟩, by simp [hcj], fun t u hu => ?_⟩
      rw [Addr.add_lit]
      rw [List.getElem?_drop, ← hx, List.getElem?_take] at hu
      split at hu
      · refine cell_of (show w.drew.heap[g]? = _ from hg) ?_
        simpa using hu
      · cases hu
  obtain ⟨W1, hW1⟩ : ∃ W1, W1 = w.drew.setRow g A1.toArray := ⟨_, rfl⟩
  obtain ⟨W2, hW2⟩ : ∃ W2, W2 = W1.setRow g A2.toArray := ⟨_, rfl⟩
  have b1 : W1.heap[g]? = some (.cells A1.toArray 82 (0, 0)) := by rw [hW1]; exact setRow_heap _ _ _ _ _ _ (show w.drew.heap[g]? = _ from hg)
  have b2 : W2.heap[g]? = some (.cells A2.toArray 82 (0, 0)) := by rw [hW2]; exact setRow_heap _ _ _ _ _ _ b1
  have hap : ∀ ty sc, (Builtin.append_ #[101, 101] ty #[.slice (some ⟨g, 0, none⟩) i c, .slice (some A) (n - j) sc]).run Tryz.prog w.drew = .ok (.slice (some ⟨g, 0, none⟩) (i + (n - j)) c) W1 := fun ty sc => by
    have := run_append_room (P := Tryz.prog) w.drew 101 ty 82 i0 Tryz.underlying101 hi0 g i c cur (show w.drew.heap[g]? = _ from hg) A (n - j) sc (xs.drop (j * 1)) (by rw [hdl, hz1]) hsrc.out (fun u hu => hx1 u (List.mem_of_mem_drop hu)) (by omega) (by rw [hz1, hdl, hcs]; omega)
    rw [this, hW1, hA1, hz1]
  have hclr : ∀ ty sc, (Builtin.clear_ #[101] ty #[.slice (some ⟨g, (i + (n - j)), none⟩) (n - (i + (n - j))) sc]).run Tryz.prog W1 = .ok (.tuple #[]) W2 := fun ty sc => by
    have := run_clear_sz (P := Tryz.prog) W1 101 82 ty (.pointer none) Tryz.underlying101 (zerosP W1) g ((i + (n - j))) (n - (i + (n - j))) sc (by omega) A1.toArray 82 b1 zs hzs.symm (by rw [hzl, List.size_toArray, l1]; omega) (by rw [hzs]; exact zerosP_one _)
    rw [this, hW2, hA2]
    try simp only [Nat.mul_one]
  have HZ : Hid (DelToP w (.slice (some ⟨g, 0, none⟩) n c) (i + (n - j)) (xs.take (i * 1) ++ xs.drop (j * 1)) (.returned (.slice (some ⟨g, 0, none⟩) (i + (n - j)) c)) W2) :=
    ⟨g, c, rfl, rfl, row_mk b2 (by omega) hcm (by rw [List.size_toArray, l2]) (by rw [List.toList_toArray, l3]), by rw [hW2, hW1]; exact grown_trans (grown_drew w _) (grown_trans (grown_setRow _ g _) (grown_setRow _ g _))⟩
  have hz2' : ¬ ((i : Int) = (j : Int)) := by omega
  have hic : i ≤ c := by omega
  have hjc : j ≤ c := by omega
  have hin : i ≤ n := by omega
  have hij' : i ≤ j := by omega
  have hk1 : i + (n - j) ≤ n := by omega
  have hk2 : ¬ (c = i + (n - j)) := by omega
  clear hA1 hA2 l1 l2 l3 hdl hzl hzs hg hxl hx hcs hx1 hcm hW1 hW2 b1 b2 h hsrc
  go_enter Tryz.func69, Tryz.ntmps69
  go_wp2_with fail
  go_region_law (refine step_append_run rfl _ _ 101 101 rfl (.slice (some ⟨g, 0, none⟩) i c) (.slice (some A) (n - j) (c - j)) (by simp [Act.eval, Act.put]) (by simp [Act.eval, Act.put]) (hap _ _) ?_)
  go_wp2_with (at_builtin; refine wpList_clear_run _ rfl _ 101 rfl _ rfl (hclr _ _) ?_)
  go_ret
  exact HZ.out
/-- slices.Clone of a piece. -/
def CloToP (w : World) (n : Nat) (zs : List Value) (e : Ending) (w' : World) : Prop :=
  ∃ g c, w.heap.size ≤ g ∧ e = .returned (.slice (some ⟨g, 0, none⟩) n c) ∧ w'.ownsRow 0 82 1 (.slice (some ⟨g, 0, none⟩) n c) n zs ∧ Below w.heap.size w w'
set_option maxRecDepth 100000 in
set_option maxHeartbeats 1000000 in
theorem cloP_ {w : World} (b off n c : Nat) (news : List Value) (hn0 : 0 < n) (hn : n ≤ 1000) (hl : news.length = n * 1) (hc : ∀ j u, news[j]? = some u → w.cell? ⟨b, off + j, none⟩ = some u) (h1 : ∀ u ∈ news, u.oneCell' = true) :
    Calls Tryz.prog 68 #[.slice (some ⟨b, off, none⟩) n c] w (CloToP w n news) := by
  obtain ⟨i0, hi0, hz0, hz1, hz2⟩ := info_parts infoVP
  have q22 : ∀ (w : World) (a : Option Addr) (n c n' c' : Nat), (binOp .eql 101 (.slice a n c) (.slice none n' c')).run Tryz.prog w = .ok (.bool a.isNone) w := fun w a n c n' c' => Lib.run_eql_slice_nil w _ _ a n c n' c' Tryz.underlying101
  have A : Aside (∀ j u, news[j]? = some u → w.cell? ⟨b, off + j, none⟩ = some u) := hc
  clear hc
  go_enter Tryz.func68, Tryz.ntmps68
  go_wp2_with (at_builtin; refine wpList_append_own _ rfl _ _ 101 rfl w.heap.size 82 i0 _ 1 8 Tryz.underlying101 hi0 hz0 hz1 hz2 rfl (by decide) _ _ _ rfl (World.ownsRow_made w #[] 0 (Nat.le_refl _) (Nat.zero_le _) (by simp)) ⟨b, off, none⟩ n c news rfl ?qc1 ?qc2 ?qc3 ?qc4 ?qc5 ?qc6 ?_)
  case qc1 => exact hl
  case qc2 =>
    intro j u hj
    rw [Addr.add_lit]
    exact Lib.cell?_alloc_some _ (A.out j u hj)
  case qc3 => exact h1
  case qc4 => rw [Nat.zero_add]; unfold maxLen; omega
  case qc5 => rw [Nat.zero_add]; omega
  case qc6 => simp
  intro v' w1 hown hgrow hnil
  have hb : Below w.heap.size w w1 := ((Below.refl _ w).alloc (Nat.le_refl _) _).grown hgrow (by simp) (by intro k hk; simp [Value.ownBlock] at hk; omega)
  obtain ⟨g, cap, cur, rfl, h2⟩ : ∃ g cap cur, v' = .slice (some ⟨g, 0, none⟩) n cap ∧ w.heap.size ≤ g ∧ w1.heap[g]? = some (.cells cur 82 (0, 0)) ∧ n ≤ cap ∧ cap ≤ maxLen ∧ cur.size = cap * 1 ∧ cur.toList.take (n * 1) = news := by
    rcases hown.2 with ⟨_, e⟩ | ⟨g, cap, cur, e1, h1, h2⟩
    · omega
    · exact ⟨g, cap, cur, e1, h1, h2⟩
  obtain ⟨h3, h4, h5, h6, h7, h8⟩ := h2
  have HZ : Hid (CloToP w n news (.returned (.slice (some ⟨g, 0, none⟩) n cap)) w1) := ⟨g, cap, h3, rfl, row_mk h4 h5 h6 h7 h8, hb⟩
  clear hb hown hgrow hnil h3 h4 h5 h6 h7 h8 h1 hl
  go_wp2
  go_ret
  exact HZ.out
end Go.Proofs.YtagamkahfiackaaGreatDoor

namespace Go.Proofs.YtagamkahfiackaaGreatDoor
open Go.RowKit Go.Sort

def itV (x : It) : Value := .agg #[.string x.1, .slice x.2.a x.2.n x.2.c]
/-- A node's items in their row. -/
theorem Store.item {w : World} {M : Nat → Option Nd} {q : Nat} {n : Nd} {I1 I2 : List It} {x : It} (h : Store w M) (hq : M q = some n) (hI : n.its = I1 ++ x :: I2) : ∃ g c, n.iv = .slice (some ⟨g, 0, none⟩) (I1.length + I2.length + 1) c ∧ g < w.heap.size ∧ w.cell? ⟨g, I1.length * 2, none⟩ = some (.string x.1) ∧ w.cell? ⟨g, I1.length * 2 + 1, none⟩ = some (.slice x.2.a x.2.n x.2.c) ∧ w.frozen? ⟨g, I1.length * 2, none⟩ = false ∧ w.frozen? ⟨g, I1.length * 2 + 1, none⟩ = false ∧ c ≤ 9223372036854775807 := by
  have hr := h.its q n hq
  have hl : n.its.length = I1.length + I2.length + 1 := by rw [hI]; simp; omega
  obtain ⟨g, c, cur, e, hg, hnc, hcm, hcs, hx⟩ := row_open hr (by omega)
  rw [hl] at e
  obtain ⟨c1, c2⟩ := cI_get n.its I1.length x (by rw [hI]; simp)
  have get : ∀ j u, (cI n.its)[j]? = some u → w.cell? ⟨g, j, none⟩ = some u := fun j u hj => by
    refine cell_of hg ?_
    rw [← hx, List.getElem?_take] at hj
    split at hj
    · simpa using hj
    · cases hj
  exact ⟨g, c, e, blk_lt hg, get _ _ c1, get _ _ c2, frozen_of hg, frozen_of hg, by unfold maxLen at hcm; omega⟩
theorem Store.kid {w : World} {M : Nat → Option Nd} {q : Nat} {n : Nd} {K1 K2 : List Nat} {p : Nat} (h : Store w M) (hq : M q = some n) (hK : n.ks = K1 ++ p :: K2) : ∃ g c, n.cv = .slice (some ⟨g, 0, none⟩) (K1.length + K2.length + 1) c ∧ g < w.heap.size ∧ w.cell? ⟨g, K1.length, none⟩ = some (pt p) ∧ w.frozen? ⟨g, K1.length, none⟩ = false ∧ c ≤ 9223372036854775807 := by
  have hr := h.ks q n hq
  have hl : n.ks.length = K1.length + K2.length + 1 := by rw [hK]; simp; omega
  obtain ⟨g, c, cur, e, hg, hnc, hcm, hcs, hx⟩ := row_open hr (by omega)
  rw [hl] at e
  have c1 := cP_get n.ks K1.length p (by rw [hK]; simp)
  refine ⟨g, c, e, blk_lt hg, ?_, frozen_of hg, by unfold maxLen at hcm; omega⟩
  refine cell_of hg ?_
  rw [← hx, List.getElem?_take] at c1
  split at c1
  · simpa using c1
  · cases c1
/-- What is left behind an element is taken out. -/
def TookI (w : World) (M : Nat → Option Nd) (q : Nat) (n : Nd) (x : It) (its : List It) (e : Ending) (w' : World) : Prop :=
  ∃ v', e = .returned (itV x) ∧ Store w' (upd M q { n with iv := v', its := its }) ∧ Ext (Own M) (Own (upd M q { n with iv := v', its := its })) w w'
def TookP (w : World) (M : Nat → Option Nd) (q : Nat) (n : Nd) (p : Nat) (ks : List Nat) (e : Ending) (w' : World) : Prop :=
  ∃ v', e = .returned (pt p) ∧ Store w' (upd M q { n with cv := v', ks := ks }) ∧ Ext (Own M) (Own (upd M q { n with cv := v', ks := ks })) w w'
theorem store_sl {w : World} {q o : Nat} {v : Value} {t : TypeId} {a : Option Addr} {n c : Nat} (hc : w.cell? ⟨q, o, none⟩ = some v) (hf : w.frozen? ⟨q, o, none⟩ = false) (hs : (sizeOf t).run Tryz.prog w = .ok 1 w) : (Instr.storeAt t (.pointer (some ⟨q, o, none⟩)) (.slice a n c)).run Tryz.prog w = .ok () (w.setCell ⟨q, o, none⟩ (.slice a n c)) := by
  simp only [Instr.storeAt, Instr.sureAddr, Sem.run_bind, Sem.run_pure, Result.andThen]
  simp [storeVar, hs, Value.cells, Result.andThen, storeCells, hc, hf, go_sem]
set_option maxRecDepth 100000 in
set_option maxHeartbeats 1000000 in
theorem takeP_ {w : World} {M : Nat → Option Nd} {q : Nat} {n : Nd} {K1 K2 : List Nat} {p : Nat} (h : Store w M) (hq : M q = some n) (hK : n.ks = K1 ++ p :: K2) (hn : n.ks.length ≤ 1000) :
    Calls Tryz.prog 86 #[.pointer (some ⟨q, 1, none⟩), .int .i64 K1.length] w (TookP w M q n p (K1 ++ K2)) := by
  obtain ⟨g, c, hcv, hgl, hp, hpf, hc63⟩ := h.kid hq hK
  obtain ⟨_, c1, _, f1⟩ := h.cells hq
  have hl : n.ks.length = K1.length + K2.length + 1 := by rw [hK]; simp; omega
  have HD : Hid (Calls Tryz.prog 69 #[.slice (some ⟨g, 0, none⟩) (K1.length + K2.length + 1) c, .int .i64 K1.length, .int .i64 ((K1.length : Int) + 1)] w fun e w1 => ∃ g' c', e = .returned (.slice (some ⟨g', 0, none⟩) (K1.length + K2.length) c') ∧ w1.cell? ⟨q, 1, none⟩ = some n.cv ∧ w1.frozen? ⟨q, 1, none⟩ = false ∧ Hid (TookP w M q n p (K1 ++ K2) (.returned (pt p)) (w1.setCell ⟨q, 1, none⟩ (.slice (some ⟨g', 0, none⟩) (K1.length + K2.length) c')))) := by
    have hd := delP_ (h.ks q n hq) (i := K1.length) (j := K1.length + 1) (by omega) (by omega) hn (cP_one _)
    rw [hcv, show ((K1.length + 1 : Nat) : Int) = (K1.length : Int) + 1 by omega] at hd
    refine hd.mono ?_
    rintro e w1 ⟨g', c', e1, rfl, hr, hg⟩
    have hnn : K1.length + (n.ks.length - (K1.length + 1)) = K1.length + K2.length := by omega
    rw [hnn] at hr ⊢
    rw [← hcv] at e1 hg
    have hr' : RowP w1 (.slice (some ⟨g', 0, none⟩) (K1.length + K2.length) c') (K1 ++ K2) := by
      unfold RowP
      rw [cP_take, cP_drop, ← cP_append, hK, List.take_left] at hr
      rw [show K1 ++ p :: K2 = (K1 ++ [p]) ++ K2 by simp, List.drop_left' (by simp)] at hr
      rw [List.length_append]
      exact hr
    obtain ⟨s1, s2⟩ := h.putC hq hg hr' (fun k e => by
      simp only [Value.ownBlock, Option.some.injEq] at e
      subst e
      exact .inl e1)
    have hb1 : w1.heap[q]? = w.heap[q]? := hg.block q (h.node_lt hq) fun e => by
      obtain ⟨cur, hc'⟩ := row_block (h.ks q n hq) e.symm
      exact kind_ne (h.blk q n hq) hc' (by decide) rfl
    have hb2 := hb1.trans (h.blk q n hq)
    exact ⟨g', c', rfl, cell_of hb2 rfl, frozen_of hb2, _, rfl, s1, s2⟩
  have w1 := wraps_i64 ((K1.length : Int) + 1) (by omega) (by omega)
  have hsz : ∀ W, (sizeOf 101).run Tryz.prog W = .ok 1 W := fun W => by kernel_rfl
  rw [hcv] at c1
  clear h hq hK hl hn
  generalize K1.length = k1 at *
  generalize K2.length = k2 at *
  unfold pt at hp
  go_enter Tryz.func86, Tryz.ntmps86
  go_wp2_with (first
    | (go_at_call 69; refine HD.out.mono ?_; rintro e V ⟨g', c', rfl, hv1, hv2, HT⟩)
    | fail)
  go_ret
  exact HT.out
/-- The blocks that a call has made for itself stay beside a store. -/
theorem Ext.mine {M M' : Nat → Option Nd} {w V V' : World} (h : Store w M) (hx : Ext (Own M) (Own M') V V') {k : Nat} {o : Obj} (hk : w.heap.size ≤ k) (ho : V.heap[k]? = some o) : V'.heap[k]? = some o ∧ ¬ Own M' k := hx.stays ho (h.not_own hk)
theorem Store.far {w : World} {M : Nat → Option Nd} (h : Store w M) {k o : Nat} {v : Value} (hk : ¬ Own M k) : Store (w.setCell ⟨k, o, none⟩ v) M := h.keep fun _ hj => heap_far _ fun e => hk (e ▸ hj)
theorem Ext.far {O O' : Nat → Prop} {w0 w : World} (h : Ext O O' w0 w) {k o : Nat} {v : Value} (hk : w0.heap.size ≤ k) : Ext O O' w0 (w.setCell ⟨k, o, none⟩ v) :=
  ⟨h.os, h.tape, h.output, by rw [size_set]; exact h.size, fun i hi hn => (heap_far _ (by omega)).trans (h.block i hi hn), h.new⟩
/-- Two blocks of a call's own. -/
theorem box2 (w : World) (A B : Obj) : ((w.alloc A).alloc B).heap[w.heap.size]? = some A ∧ ((w.alloc A).alloc B).heap[w.heap.size + 1]? = some B := by
  have hs : (w.alloc A).heap.size = w.heap.size + 1 := by simp
  refine ⟨?_, ?_⟩
  · rw [Below.heap_alloc _ _ _ (by rw [hs]; omega)]
    exact new_blk w A
  · rw [← hs]; exact new_blk _ _
set_option maxRecDepth 100000 in
set_option maxHeartbeats 1000000 in
theorem takeI_ {w : World} {M : Nat → Option Nd} {q : Nat} {n : Nd} {I1 I2 : List It} {x : It} (h : Store w M) (hq : M q = some n) (hI : n.its = I1 ++ x :: I2) (hn : n.its.length ≤ 1000) :
    Calls Tryz.prog 65 #[.pointer (some ⟨q, 0, none⟩), .int .i64 I1.length] w (TookI w M q n x (I1 ++ I2)) := by
  obtain ⟨g, c, hcv, hgl, hp, hp2, hpf, _, hc63⟩ := h.item hq hI
  obtain ⟨c1, _, f1, _⟩ := h.cells hq
  have hl : n.its.length = I1.length + I2.length + 1 := by rw [hI]; simp; omega
  have hql := h.node_lt hq
  have HD : Hid (∀ V, Below w.heap.size w V → V.heap[w.heap.size]? = some (.cells #[.string ⟨#[]⟩, .slice none 0 0] 99 (0, 0)) ∧ V.heap[w.heap.size + 1]? = some (.cells #[.string x.1, .slice x.2.a x.2.n x.2.c] 99 (0, 0)) → Calls Tryz.prog 71 #[.slice (some ⟨g, 0, none⟩) (I1.length + I2.length + 1) c, .int .i64 I1.length, .int .i64 ((I1.length : Int) + 1)] V fun e w1 => ∃ g' c' w2, e = .returned (.slice (some ⟨g', 0, none⟩) (I1.length + I2.length) c') ∧ (Instr.storeAt 100 (.pointer (some ⟨q, 0, none⟩)) (.slice (some ⟨g', 0, none⟩) (I1.length + I2.length) c')).run Tryz.prog w1 = .ok () w2 ∧ w2.cell? ⟨w.heap.size, 0, none⟩ = some (.string ⟨#[]⟩) ∧ w2.cell? ⟨w.heap.size, 1, none⟩ = some (.slice none 0 0) ∧ w2.frozen? ⟨w.heap.size, 0, none⟩ = false ∧ w2.frozen? ⟨w.heap.size, 1, none⟩ = false ∧ w2.cell? ⟨w.heap.size + 1, 0, none⟩ = some (.string x.1) ∧ w2.cell? ⟨w.heap.size + 1, 1, none⟩ = some (.slice x.2.a x.2.n x.2.c) ∧ Hid (TookI w M q n x (I1 ++ I2) (.returned (itV x)) ((w2.setCell ⟨w.heap.size, 0, none⟩ (.string x.1)).setCell ⟨w.heap.size, 1, none⟩ (.slice x.2.a x.2.n x.2.c)))) := by
    intro V hV hVb
    have h0 := h
    have h := h.on hV
    have hd := delI_ (h.its q n hq) (i := I1.length) (j := I1.length + 1) (by omega) (by omega) hn (cI_one _)
    rw [hcv, show ((I1.length + 1 : Nat) : Int) = (I1.length : Int) + 1 by omega] at hd
    refine hd.mono ?_
    rintro e w1 ⟨g', c', e1, rfl, hr, hg⟩
    have hnn : I1.length + (n.its.length - (I1.length + 1)) = I1.length + I2.length := by omega
    rw [hnn] at hr ⊢
    rw [← hcv] at e1 hg
    have hr' : RowI w1 (.slice (some ⟨g', 0, none⟩) (I1.length + I2.length) c') (I1 ++ I2) := by
      unfold RowI
      rw [cI_take, cI_drop, ← cI_append, hI, List.take_left] at hr
      rw [show I1 ++ x :: I2 = (I1 ++ [x]) ++ I2 by simp, List.drop_left' (by simp)] at hr
      rw [List.length_append]
      exact hr
    obtain ⟨s1, s2⟩ := h.putI hq hg hr' (fun k e => by
      simp only [Value.ownBlock, Option.some.injEq] at e
      subst e
      exact .inl e1)
    have hb1 : w1.heap[q]? = V.heap[q]? := hg.block q (h.node_lt hq) fun e => by
      obtain ⟨cur, hc'⟩ := row_block (h.its q n hq) e.symm
      exact kind_ne (h.blk q n hq) hc' (by decide) rfl
    have hb2 := hb1.trans (h.blk q n hq)
    obtain ⟨n1, n2⟩ := s2.mine h0 (Nat.le_refl _) hVb.1
    obtain ⟨n3, n4⟩ := s2.mine h0 (Nat.le_succ _) hVb.2
    refine ⟨g', c', _, rfl, store_sl (cell_of hb2 rfl) (frozen_of hb2) (by kernel_rfl), cell_of n1 rfl, cell_of n1 rfl, frozen_of n1, frozen_of n1, cell_of n3 rfl, cell_of n3 rfl, _, rfl, (s1.far n2).far n2, ?_⟩
    exact (((Ext.of_below _ hV).trans s2).far (Nat.le_refl _)).far (Nat.le_refl _)
  have w1 := wraps_i64 ((I1.length : Int) + 1) (by omega) (by omega)
  rw [hcv] at c1
  clear h hq hI hl hn
  generalize I1.length = k1 at *
  generalize I2.length = k2 at *
  go_enter Tryz.func65, Tryz.ntmps65
  go_wp2_with (first
    | (go_at_call 71; refine (HD.out _ (by (repeat (first | exact Below.refl _ _ | (refine Below.setCell ?_ (by simp) _) | (refine Below.alloc ?_ (by simp) _)))) (box2 _ _ _)).mono ?_; rintro e V ⟨g', c', w2, rfl, hst, d1, d2, d3, d4, d5, d6, HT⟩)
    | (refine wpList_store_at rfl _ _ _ rfl _ _ rfl rfl hst ?_)
    | fail)
  refine bodyPost_ret (v := itV x) ?_ rfl ?_
  · rw [results_cell rfl]
    go_simp
    rfl
  · exact HT.out
end Go.Proofs.YtagamkahfiackaaGreatDoor

namespace Go.Proofs.YtagamkahfiackaaGreatDoor
open Go.RowKit Go.Sort

set_option maxRecDepth 100000 in
theorem cmpString_ (a b : ByteArray) (w : World) : Calls Tryz.prog 85 #[.string a, .string b] w fun e w' => e = .returned (.int .i64 (Lib.compareBytes a.data.toList b.data.toList)) ∧ w' = w := by
  go_enter Tryz.func85, Tryz.ntmps85
  go_wp2
  rw [run_callFunc_extern Tryz.func89 (by kernel_rfl) (by kernel_rfl) (by kernel_rfl) (e := Extern.BytealgCompare.compare) (by kernel_rfl), Lib.run_compareString]
  simp only [Result.andThen]
  rw [Oper.upon_value]
  go_wp2
  go_ret
  exact ⟨rfl, rfl⟩
theorem sCompare_ (a b : ByteArray) (w : World) : Calls Tryz.prog 75 #[.string a, .string b] w fun e w' => e = .returned (.int .i64 (Lib.compareBytes a.data.toList b.data.toList)) ∧ w' = w := by
  go_enter Tryz.func75, Tryz.ntmps75
  go_wp2_with (first | (go_at_call 85; refine (cmpString_ _ _ _).mono ?_; rintro e w' ⟨rfl, rfl⟩) | fail)
  go_ret
  exact ⟨rfl, rfl⟩
theorem itcompare_ (x1 : ByteArray) (x2 : Vl) (k : ByteArray) (w : World) : Calls Tryz.prog 58 #[.agg #[.string x1, .slice x2.a x2.n x2.c], .string k] w fun e w' => e = .returned (.int .i64 (Lib.compareBytes x1.data.toList k.data.toList)) ∧ Below w.heap.size w w' := by
  have HB := Lib.hid (below_alloc w (.cells #[.string x1, .slice x2.a x2.n x2.c] 99))
  go_enter Tryz.func58, Tryz.ntmps58
  go_wp2_with (first | (go_at_call 75; refine (sCompare_ _ _ _).mono ?_; rintro e w' ⟨rfl, rfl⟩) | fail)
  go_ret
  exact ⟨rfl, HB.out⟩
/-- Items behind a slice. -/
def ItsIn (w : World) (v : Value) (its : List It) : Prop := ∃ a c, v = .slice a its.length c ∧ c ≤ 9223372036854775807 ∧ ∀ i x, its[i]? = some x → ∃ g, a = some ⟨g, 0, none⟩ ∧ g < w.heap.size ∧ w.cell? ⟨g, i * 2, none⟩ = some (.string x.1) ∧ w.cell? ⟨g, i * 2 + 1, none⟩ = some (.slice x.2.a x.2.n x.2.c)
theorem RowI.items {w : World} {v : Value} {its : List It} (h : RowI w v its) : ItsIn w v its := by
  obtain ⟨a, c, rfl, _, ha1, _, hcm⟩ := row_shape h
  refine ⟨a, c, rfl, by unfold maxLen at hcm; omega, fun i x hi => ?_⟩
  have hl : i < its.length := (List.getElem?_eq_some_iff.1 hi).1
  obtain ⟨g, c', cur, e, hg, _, _, _, hx⟩ := row_open h (by omega)
  cases e
  obtain ⟨c1, c2⟩ := cI_get its i x hi
  have get : ∀ j u, (cI its)[j]? = some u → w.cell? ⟨g, j, none⟩ = some u := fun j u hj => by
    refine cell_of hg ?_
    rw [← hx, List.getElem?_take] at hj
    split at hj
    · simpa using hj
    · cases hj
  exact ⟨g, rfl, blk_lt hg, get _ _ c1, get _ _ c2⟩
theorem ItsIn.on {w w' : World} {v : Value} {its : List It} (h : ItsIn w v its) (hb : Below w.heap.size w w') : ItsIn w' v its := by
  obtain ⟨a, c, e, hc, h1⟩ := h
  refine ⟨a, c, e, hc, fun i x hi => ?_⟩
  obtain ⟨g, e1, h2, h3, h4⟩ := h1 i x hi
  exact ⟨g, e1, Nat.lt_of_lt_of_le h2 hb.size, (hb.cell (p := ⟨g, i * 2, none⟩) h2).trans h3, (hb.cell (p := ⟨g, i * 2 + 1, none⟩) h2).trans h4⟩
def FindTo (w : World) (its : List It) (k : ByteArray) (e : Ending) (w' : World) : Prop := ∃ (i : Nat) (b : Bool), e = .returned (.tuple #[.int .i64 i, .bool b]) ∧ Found its k i b ∧ Below w.heap.size w w'
theorem getElem?_of_lt {α : Type} {l : List α} {i : Nat} (h : i < l.length) : ∃ x, l[i]? = some x := ⟨l[i], List.getElem?_eq_getElem h⟩
set_option maxRecDepth 100000 in
set_option maxHeartbeats 1000000 in
theorem bin_ {w : World} {v : Value} {its : List It} (h : ItsIn w v its) (hs : Srt its) (hn : its.length ≤ 1000) (k : ByteArray) :
    Calls Tryz.prog 57 #[v, .string k, .func (.func 58) #[] #[]] w (FindTo w its k) := by
  obtain ⟨a, c, rfl, hc63, hat⟩ := id h
  have HI : Hid (∀ V, Below w.heap.size w V → ∀ i x, its[i]? = some x → ∃ g, a = some ⟨g, 0, none⟩ ∧ V.cell? ⟨g, i * 2, none⟩ = some (.string x.1) ∧ V.cell? ⟨g, i * 2 + 1, none⟩ = some (.slice x.2.a x.2.n x.2.c)) := fun V hV i x hi => by
    obtain ⟨g, e1, h2, h3, h4⟩ := hat i x hi
    exact ⟨g, e1, (hV.cell (p := ⟨g, i * 2, none⟩) h2).trans h3, (hV.cell (p := ⟨g, i * 2 + 1, none⟩) h2).trans h4⟩
  have HM : Hid (∀ (i j : Nat) (x y : It), i < j → its[i]? = some x → its[j]? = some y → ltb x.1 y.1 = true) := fun i j x y hij hi hj => by
    have := List.pairwise_iff_getElem.1 hs
    obtain ⟨h1, e1⟩ := List.getElem?_eq_some_iff.1 hi
    obtain ⟨h2, e2⟩ := List.getElem?_eq_some_iff.1 hj
    have := this i j h1 h2 hij
    rw [e1, e2] at this
    exact this
  have HF : Hid (∀ i, i ≤ its.length → (∀ j x, j < i → its[j]? = some x → ltb x.1 k = true) → (∀ x, its[i]? = some x → ltb x.1 k = false) → Found its k i (its[i]?.any fun x => !(ltb k x.1))) := fun i hi h1 h2 => found_of hs k i hi h1 h2
  have HN : Hid (∀ i, i < its.length → ∃ x, its[i]? = some x) := fun i hi => getElem?_of_lt hi
  have B0 := Lib.hid (Below.refl w.heap.size w)
  have HX : Hid (∀ i, its.length ≤ i → its[i]? = none) := fun i hi => List.getElem?_eq_none hi
  clear h hs hat
  generalize hnn : its.length = n at *
  clear hnn
  go_enter Tryz.func57, Tryz.ntmps57
  go_wp2_with fail
  go_loopg [9, 10] n (fun kx s9 s10 wr => ∃ lo hi : Nat, s9 = .int .i64 lo ∧ s10 = .int .i64 hi ∧ lo ≤ hi ∧ hi ≤ n ∧ hi - lo ≤ kx ∧ Hid (Below w.heap.size w wr) ∧
    Hid ((∀ j x, j < lo → its[j]? = some x → ltb x.1 k = true) ∧ (∀ j x, hi ≤ j → its[j]? = some x → ltb x.1 k = false)))
  case atStart => exact ⟨0, n, rfl, rfl, Nat.zero_le _, Nat.le_refl _, by omega, B0, ⟨fun j x hj => absurd hj (Nat.not_lt_zero _), fun j x hj e => by rw [HX.out j hj] at e; cases e⟩⟩
  case round =>
    clear B0
    obtain ⟨lo, hi, rfl, rfl, hlh, hin, hg, S1, I⟩ := hrel
    by_cases hlt : lo < hi
    · obtain ⟨y, hy⟩ := HN.out ((lo + hi) / 2) (by omega)
      obtain ⟨g, rfl, c1, c2⟩ := HI.out wr S1.out _ y hy
      have HY := Lib.hid hy
      clear hy
      by_cases hyx : ltb y.1 k = true
      · have hcmp : Lib.compareBytes y.1.data.toList k.data.toList < 0 := (compare_ltb y.1 k).1.2 hyx
        go_wp2_with (first | (go_at_call 58; refine (itcompare_ _ _ _ _).mono ?_; rintro e w' ⟨rfl, hb⟩; have HB := Lib.hid hb; clear hb) | fail)
        go_roundg (hi - ((lo + hi) / 2 + 1))
        case measure => omega
        case rel =>
          refine ⟨(lo + hi) / 2 + 1, hi, by rw [show ((lo : Int) + (hi : Int)) / 2 + 1 = (((lo + hi) / 2 + 1 : Nat) : Int) by omega], rfl, by omega, hin, Nat.le_refl _, below_step S1.out HB.out, fun j x hj e => ?_, I.out.2⟩
          rcases Nat.lt_or_ge j ((lo + hi) / 2) with q | q
          · exact ltb_trans (HM.out j _ x y q e HY.out) hyx
          · obtain rfl : j = (lo + hi) / 2 := by omega
            rw [HY.out] at e; cases e; exact hyx
      · have hcmp : ¬ Lib.compareBytes y.1.data.toList k.data.toList < 0 := fun e => hyx ((compare_ltb y.1 k).1.1 e)
        go_wp2_with (first | (go_at_call 58; refine (itcompare_ _ _ _ _).mono ?_; rintro e w' ⟨rfl, hb⟩; have HB := Lib.hid hb; clear hb) | fail)
        go_roundg ((lo + hi) / 2 - lo)
        case measure => omega
        case rel =>
          refine ⟨lo, (lo + hi) / 2, rfl, by rw [show ((lo : Int) + (hi : Int)) / 2 = (((lo + hi) / 2 : Nat) : Int) by omega], by omega, by omega, Nat.le_refl _, below_step S1.out HB.out, I.out.1, fun j x hj e => ?_⟩
          rcases Nat.lt_or_ge ((lo + hi) / 2) j with q | q
          · have hm := HM.out _ j y x q HY.out e
            by_cases hx : ltb x.1 k = true
            · exact absurd (ltb_trans hm hx) hyx
            · simpa using hx
          · obtain rfl : j = (lo + hi) / 2 := by omega
            rw [HY.out] at e; cases e; simpa using hyx
    · obtain rfl : hi = lo := by omega
      have HFo := Lib.hid (HF.out hi hin I.out.1 (fun x e => I.out.2 hi x (Nat.le_refl _) e))
      by_cases hn2 : hi < n
      · obtain ⟨y, hy⟩ := HN.out hi hn2
        obtain ⟨g, rfl, c1, c2⟩ := HI.out wr S1.out _ y hy
        rw [hy] at HFo
        have hge := I.out.2 hi y (Nat.le_refl _) hy
        clear hy
        by_cases hyx : ltb k y.1 = true
        · have hcmp : ¬ Lib.compareBytes y.1.data.toList k.data.toList = 0 := fun e => by
            have := (compare_ltb y.1 k).2.1 e
            rw [this, ltb_irrefl] at hyx; cases hyx
          have HFp : Hid (Found its k hi false) := by have := HFo.out; show Found _ _ _ _; simpa [hyx] using this
          go_wp2_with (first | (go_at_call 58; refine (itcompare_ _ _ _ _).mono ?_; rintro e w' ⟨rfl, hb⟩; have HB := Lib.hid hb; clear hb) | fail)
          go_ret2
          exact ⟨hi, false, by simp [hcmp], HFp.out, below_step S1.out HB.out⟩
        · have hye : y.1 = k := ltb_total hge (by simpa using hyx)
          have hcmp : Lib.compareBytes y.1.data.toList k.data.toList = 0 := (compare_ltb y.1 k).2.2 hye
          have HFp : Hid (Found its k hi true) := by have := HFo.out; show Found _ _ _ _; simpa [hyx] using this
          clear hye
          go_wp2_with (first | (go_at_call 58; refine (itcompare_ _ _ _ _).mono ?_; rintro e w' ⟨rfl, hb⟩; have HB := Lib.hid hb; clear hb) | fail)
          go_ret2
          exact ⟨hi, true, by first | rfl | simp, HFp.out, below_step S1.out HB.out⟩
      · have HFp : Hid (Found its k hi false) := by have := HFo.out; rw [HX.out hi (by omega)] at this; exact this
        go_wp2_with fail
        go_ret2
        exact ⟨hi, false, rfl, HFp.out, S1.out⟩
end Go.Proofs.YtagamkahfiackaaGreatDoor

namespace Go.Proofs.YtagamkahfiackaaGreatDoor
open Go.RowKit Go.Sort

set_option maxRecDepth 100000 in
theorem find_ {w : World} {M : Nat → Option Nd} {q : Nat} {n : Nd} (h : Store w M) (hq : M q = some n) (hs : Srt n.its) (hn : n.its.length ≤ 1000) (k : ByteArray) :
    Calls Tryz.prog 40 #[.pointer (some ⟨q, 0, none⟩), .string k] w (FindTo w n.its k) := by
  obtain ⟨c1, _, _, _⟩ := h.cells hq
  have HB := Lib.hid (bin_ (h.its q n hq).items hs hn k)
  clear h hq hs hn
  generalize n.iv = v at *
  go_enter Tryz.func40, Tryz.ntmps40
  go_wp2_with (first | (go_at_call 57; refine HB.out.mono ?_; rintro e w' ⟨i, b, rfl, hf, hb⟩; have HF := Lib.hid hf; have HW := Lib.hid hb; clear hf hb) | fail)
  go_ret2
  exact ⟨i, b, rfl, HF.out, HW.out⟩
set_option maxRecDepth 100000 in
theorem child_none {w : World} {M : Nat → Option Nd} {q : Nat} {n : Nd} (h : Store w M) (hq : M q = some n) (hk : n.ks = []) (i : Int) :
    Calls Tryz.prog 41 #[.pointer (some ⟨q, 0, none⟩), .int .i64 i] w fun e w' => e = .returned (.pointer none) ∧ w' = w := by
  obtain ⟨_, c1, _, _⟩ := h.cells hq
  obtain ⟨a, c, hv, _⟩ := row_shape (h.ks q n hq)
  rw [hk] at hv
  rw [hv] at c1
  clear h hq hk hv
  go_enter Tryz.func41, Tryz.ntmps41
  go_wp2_with fail
  go_ret
  exact ⟨rfl, rfl⟩
set_option maxRecDepth 100000 in
theorem child_at {w : World} {M : Nat → Option Nd} {q : Nat} {n : Nd} {K1 K2 : List Nat} {p : Nat} (h : Store w M) (hq : M q = some n) (hK : n.ks = K1 ++ p :: K2) :
    Calls Tryz.prog 41 #[.pointer (some ⟨q, 0, none⟩), .int .i64 K1.length] w fun e w' => e = .returned (pt p) ∧ w' = w := by
  obtain ⟨_, c1, _, _⟩ := h.cells hq
  obtain ⟨g, c, hcv, hgl, hp, hpf, hc63⟩ := h.kid hq hK
  rw [hcv] at c1
  clear h hq hK hcv
  unfold pt at *
  generalize K1.length = k1 at *
  generalize K2.length = k2 at *
  have hne : ¬ ((k1 : Int) + (k2 : Int) + 1 = 0) := by omega
  go_enter Tryz.func41, Tryz.ntmps41
  go_wp2_with fail
  go_ret
  exact ⟨rfl, rfl⟩
theorem items_cell {w : World} {M : Nat → Option Nd} {q : Nat} {n : Nd} (h : Store w M) (hq : M q = some n) : ∃ a c, w.cell? ⟨q, 0, none⟩ = some (.slice a n.its.length c) := by
  obtain ⟨c1, _, _, _⟩ := h.cells hq
  obtain ⟨a, c, hv, _⟩ := row_shape (h.its q n hq)
  exact ⟨a, c, by rw [c1, hv]⟩
theorem hasTooMany_ {w : World} {M : Nat → Option Nd} {q : Nat} {n : Nd} (h : Store w M) (hq : M q = some n) :
    Calls Tryz.prog 51 #[.pointer (some ⟨q, 0, none⟩)] w fun e w' => e = .returned (.bool (decide (7 < n.its.length))) ∧ w' = w := by
  obtain ⟨a, c, c1⟩ := items_cell h hq
  generalize n.its.length = l at *
  clear h hq
  go_enter Tryz.func51, Tryz.ntmps51
  go_wp2_with fail
  go_ret
  exact ⟨by simp; omega, rfl⟩
theorem hasTooFew_ {w : World} {M : Nat → Option Nd} {q : Nat} {n : Nd} (h : Store w M) (hq : M q = some n) :
    Calls Tryz.prog 76 #[.pointer (some ⟨q, 0, none⟩)] w fun e w' => e = .returned (.bool (decide (n.its.length < 3))) ∧ w' = w := by
  obtain ⟨a, c, c1⟩ := items_cell h hq
  generalize n.its.length = l at *
  clear h hq
  go_enter Tryz.func76, Tryz.ntmps76
  go_wp2_with fail
  go_ret
  exact ⟨by simp; omega, rfl⟩
theorem canSpare_ {w : World} {M : Nat → Option Nd} {q : Nat} {n : Nd} (h : Store w M) (hq : M q = some n) :
    Calls Tryz.prog 77 #[.pointer (some ⟨q, 0, none⟩)] w fun e w' => e = .returned (.bool (decide (3 < n.its.length))) ∧ w' = w := by
  obtain ⟨a, c, c1⟩ := items_cell h hq
  generalize n.its.length = l at *
  clear h hq
  go_enter Tryz.func77, Tryz.ntmps77
  go_wp2_with fail
  go_ret
  exact ⟨by simp; omega, rfl⟩
end Go.Proofs.YtagamkahfiackaaGreatDoor
