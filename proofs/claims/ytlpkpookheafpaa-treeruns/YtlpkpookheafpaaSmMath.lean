/- Plain facts for TreeSame: lists in order are told by what they have at each key. -/
import Derived.Test.YtlpkpookheafpaaVMath
namespace Go.Proofs.Ytlpkpookheafpaa
open Go.Lib

theorem get_cons (k : ByteArray) (x : It) (l : List It) : get k (x :: l) = if x.1 = k then some x.2 else get k l := by
  unfold get
  by_cases h : x.1 = k
  · subst h
    rw [if_pos rfl, List.find?_cons_of_pos (by simp [ltb_irrefl])]
    rfl
  · rw [if_neg h, List.find?_cons_of_neg ?_]
    intro e
    simp only [Bool.and_eq_true, Bool.not_eq_true'] at e
    exact h (ltb_total e.1 e.2)
theorem get_append (k : ByteArray) (a b : List It) : get k (a ++ b) = (get k a).or (get k b) := by
  induction a with
  | nil => simp [get_nil]
  | cons x a ih =>
    rw [List.cons_append, get_cons, get_cons, ih]
    split <;> simp
theorem get_filter (k : ByteArray) (P : ByteArray → Bool) (l : List It) : get k (l.filter fun x => P x.1) = if P k then get k l else none := by
  induction l with
  | nil => simp [get_nil]
  | cons x l ih =>
    by_cases h : P x.1 = true
    · rw [List.filter_cons_of_pos (by simpa using h), get_cons, get_cons, ih]
      by_cases e : x.1 = k
      · subst e; simp [h]
      · simp [e]
    · rw [List.filter_cons_of_neg (by simpa using h), get_cons, ih]
      by_cases e : x.1 = k
      · subst e; simp [h]
      · simp [e]
theorem get_lo (k k' : ByteArray) (l : List It) : get k (lo k' l) = if ltb k k' then get k l else none := get_filter k (fun y => ltb y k') l
theorem get_hi (k k' : ByteArray) (l : List It) : get k (hi k' l) = if ltb k' k then get k l else none := get_filter k (fun y => ltb k' y) l
theorem get_del (k k' : ByteArray) (l : List It) : get k (del k' l) = if k = k' then none else get k l := by
  unfold del
  rw [get_append, get_lo, get_hi]
  rcases ltb_cases k k' with h | h | h
  · rw [if_pos h, if_neg (by rw [ltb_asymm h]; simp), if_neg (ltb_ne h)]; simp
  · subst h; simp [ltb_irrefl]
  · rw [if_neg (by rw [ltb_asymm h]; simp), if_pos h, if_neg (fun e => ltb_ne h e.symm)]; simp
theorem get_ins (k k' v : ByteArray) (l : List It) : get k (ins k' v l) = if k = k' then some v else get k l := by
  unfold ins
  rw [get_append, get_cons, get_lo, get_hi]
  rcases ltb_cases k k' with h | h | h
  · rw [if_pos h, if_neg (fun e : k' = k => ltb_ne h e.symm), if_neg (by rw [ltb_asymm h]; simp), if_neg (ltb_ne h)]; simp
  · subst h; simp [ltb_irrefl]
  · rw [if_neg (by rw [ltb_asymm h]; simp), if_neg (fun e : k' = k => ltb_ne h e), if_pos h, if_neg (fun e => ltb_ne h e.symm)]; simp
theorem get_of_mem {l : List It} (h : Srt l) {x : It} (hx : x ∈ l) : get x.1 l = some x.2 := by
  induction l with
  | nil => cases hx
  | cons y l ih =>
    rw [get_cons]
    rcases List.mem_cons.1 hx with rfl | hx
    · rw [if_pos rfl]
    · rw [if_neg (ltb_ne ((List.pairwise_cons.1 h).1 x hx))]
      exact ih (List.pairwise_cons.1 h).2 hx
theorem mem_of_get {l : List It} {k v : ByteArray} (h : get k l = some v) : (k, v) ∈ l := by
  induction l with
  | nil => simp [get_nil] at h
  | cons y l ih =>
    rw [get_cons] at h
    split at h
    · next e =>
      injection h with h
      subst e; subst h
      exact List.mem_cons_self
    · exact List.mem_cons_of_mem _ (ih h)
theorem srt_ext : ∀ {a b : List It}, Srt a → Srt b → (∀ k, get k a = get k b) → a = b
  | [], [], _, _, _ => rfl
  | [], y :: b, _, _, h => by have := h y.1; rw [get_nil, get_cons, if_pos rfl] at this; cases this
  | x :: a, [], _, _, h => by have := h x.1; rw [get_nil, get_cons, if_pos rfl] at this; cases this
  | x :: a, y :: b, ha, hb, h => by
    have ha' := List.pairwise_cons.1 ha
    have hb' := List.pairwise_cons.1 hb
    have mx : x ∈ y :: b := mem_of_get (by rw [← h x.1, get_cons, if_pos rfl])
    have my : y ∈ x :: a := mem_of_get (by rw [h y.1, get_cons, if_pos rfl])
    have exy : x = y := by
      rcases List.mem_cons.1 mx with e | mx
      · exact e
      · rcases List.mem_cons.1 my with e | my
        · exact e.symm
        · have h1 := hb'.1 x mx
          have h2 := ha'.1 y my
          have := ltb_asymm h1
          rw [h2] at this; cases this
    subst exy
    have : a = b := srt_ext ha'.2 hb'.2 fun k => by
      by_cases e : x.1 = k
      · subst e
        have n1 : get x.1 a = none := by
          cases hg : get x.1 a with
          | none => rfl
          | some v => have := ha'.1 _ (mem_of_get hg); simp [ltb_irrefl] at this
        have n2 : get x.1 b = none := by
          cases hg : get x.1 b with
          | none => rfl
          | some v => have := hb'.1 _ (mem_of_get hg); simp [ltb_irrefl] at this
        rw [n1, n2]
      · have := h k
        rwa [get_cons, get_cons, if_neg e, if_neg e] at this
    rw [this]
end Go.Proofs.Ytlpkpookheafpaa
