/- What lies next to a key: plain facts on nodes; tell. -/
import Derived.Test.YtagamkahfiackaaGreatDoorVPut0
namespace Go.Proofs.YtagamkahfiackaaGreatDoor
open Go.RowKit Go.Sort

/-- The first that meets P. -/
def Up (P : It → Bool) : Prop := ∀ x y : It, ltb x.1 y.1 = true → P x = true → P y = true
def Dn (P : It → Bool) : Prop := ∀ x y : It, ltb x.1 y.1 = true → P y = true → P x = true
theorem pre_fails {P : It → Bool} (hP : Up P) : ∀ (A : List It) (L : List (List It)), Srt (pre A L) → (∀ x ∈ A, P x = false) → ∀ y ∈ pre A L, P y = false
  | [], _, _, _ => by simp [pre]
  | _ :: _, [], _, _ => by simp [pre]
  | x :: A, l :: L, hs, h => by
    intro y hy
    simp only [pre] at hs hy
    have hp := List.pairwise_append.1 hs
    rcases List.mem_append.1 hy with hy | hy
    · have h1 := hp.2.2 y hy x (by simp)
      have h2 := h x (by simp)
      cases e : P y with
      | false => rfl
      | true => rw [hP y x h1 e] at h2; cases h2
    · rcases List.mem_cons.1 hy with rfl | hy
      · exact h _ (by simp)
      · exact pre_fails hP A L (List.pairwise_cons.1 hp.2.1).2 (fun z hz => h z (by simp [hz])) y hy
theorem from_inner {P : It → Bool} (hP : Up P) {A B : List It} {L1 L2 : List (List It)} {l : List It} (hs : Srt (pre A L1 ++ (l ++ suf B L2))) (hA : ∀ x ∈ A, P x = false) (hB : ∀ x ∈ B, P x = true) (h2 : B.length = L2.length) :
    (pre A L1 ++ (l ++ suf B L2)).find? P = (l.find? P).or B.head? := by
  have hp := List.pairwise_append.1 hs
  have hf := pre_fails hP A L1 hp.1 hA
  rw [List.find?_append, List.find?_eq_none.2 (fun x hx => by rw [hf x hx]; simp), Option.none_or, List.find?_append]
  congr 1
  cases B with
  | nil => simp [suf]
  | cons b B =>
    cases L2 with
    | nil => simp at h2
    | cons m L2 => simp [suf, hB b (by simp)]
theorem from_leaf {P : It → Bool} {A B : List It} (hA : ∀ x ∈ A, P x = false) (hB : ∀ x ∈ B, P x = true) : (A ++ B).find? P = B.head? := by
  rw [List.find?_append, List.find?_eq_none.2 (fun x hx => by rw [hA x hx]; simp), Option.none_or]
  cases B with
  | nil => rfl
  | cons b B => simp [hB b (by simp)]
/-- The last that meets P. -/
def lastL (P : It → Bool) (l : List It) : Option It := (l.filter P).getLast?
theorem pre_meets {P : It → Bool} (hP : Dn P) : ∀ (A : List It) (L : List (List It)), Srt (pre A L) → (∀ x ∈ A, P x = true) → ∀ y ∈ pre A L, P y = true
  | [], _, _, _ => by simp [pre]
  | _ :: _, [], _, _ => by simp [pre]
  | x :: A, l :: L, hs, h => by
    intro y hy
    simp only [pre] at hs hy
    have hp := List.pairwise_append.1 hs
    rcases List.mem_append.1 hy with hy | hy
    · exact hP y x (hp.2.2 y hy x (by simp)) (h x (by simp))
    · rcases List.mem_cons.1 hy with rfl | hy
      · exact h _ (by simp)
      · exact pre_meets hP A L (List.pairwise_cons.1 hp.2.1).2 (fun z hz => h z (by simp [hz])) y hy
theorem suf_fails {P : It → Bool} (hP : Dn P) : ∀ (B : List It) (L : List (List It)), Srt (suf B L) → (∀ x ∈ B, P x = false) → ∀ y ∈ suf B L, P y = false
  | [], _, _, _ => by simp [suf]
  | _ :: _, [], _, _ => by simp [suf]
  | x :: B, l :: L, hs, h => by
    intro y hy
    simp only [suf] at hs hy
    have hp := List.pairwise_cons.1 hs
    rcases List.mem_cons.1 hy with rfl | hy
    · exact h _ (by simp)
    · rcases List.mem_append.1 hy with hy1 | hy1
      · have h1 := hp.1 y hy
        have h2 := h x (by simp)
        cases e : P y with
        | false => rfl
        | true => rw [hP x y h1 e] at h2; cases h2
      · exact suf_fails hP B L (List.pairwise_append.1 hp.2).2.1 (fun z hz => h z (by simp [hz])) y hy1
theorem pre_last : ∀ (A : List It) (L : List (List It)), A.length = L.length → (pre A L).getLast? = A.getLast?
  | [], [], _ => rfl
  | [x], [l], _ => by simp [pre]
  | x :: y :: A, l :: m :: L, h => by
    have := pre_last (y :: A) (m :: L) (by simpa using h)
    rw [pre, List.getLast?_append, List.getLast?_cons, this, List.getLast?_cons_cons, List.getLast?_cons]
    simp
theorem getLast?_append' (a b : List It) : (a ++ b).getLast? = b.getLast?.or a.getLast? := List.getLast?_append
theorem to_inner {P : It → Bool} (hP : Dn P) {A B : List It} {L1 L2 : List (List It)} {l : List It} (hs : Srt (pre A L1 ++ (l ++ suf B L2))) (hA : ∀ x ∈ A, P x = true) (hB : ∀ x ∈ B, P x = false) (h1 : A.length = L1.length) :
    lastL P (pre A L1 ++ (l ++ suf B L2)) = (lastL P l).or A.getLast? := by
  have hp := List.pairwise_append.1 hs
  have hq := List.pairwise_append.1 hp.2.1
  have hf := pre_meets hP A L1 hp.1 hA
  have hg := suf_fails hP B L2 hq.2.1 hB
  have e2 : (suf B L2).filter P = [] := List.filter_eq_nil_iff.2 fun x hx => by rw [hg x hx]; simp
  unfold lastL
  rw [List.filter_append, List.filter_append, List.filter_eq_self.2 hf, e2, List.append_nil, getLast?_append', pre_last A L1 h1]
theorem to_leaf {P : It → Bool} {A B : List It} (hA : ∀ x ∈ A, P x = true) (hB : ∀ x ∈ B, P x = false) : lastL P (A ++ B) = A.getLast? := by
  have e2 : B.filter P = [] := List.filter_eq_nil_iff.2 fun x hx => by rw [hB x hx]; simp
  unfold lastL
  rw [List.filter_append, List.filter_eq_self.2 hA, e2, List.append_nil]
/-- What From and To ask for. -/
def frP (k : ByteArray) (behind : Bool) (x : It) : Bool := if behind then ltb k x.1 else !(ltb x.1 k)
def toP (k : ByteArray) (ahead : Bool) (x : It) : Bool := if ahead then ltb x.1 k else !(ltb k x.1)
theorem frP_up (k : ByteArray) (b : Bool) : Up (frP k b) := by
  intro x y h hx
  cases b with
  | true => exact ltb_trans hx h
  | false =>
    simp only [frP, Bool.false_eq_true, if_false, Bool.not_eq_true'] at hx ⊢
    rcases ltb_cases x.1 k with c | c | c
    · rw [c] at hx; cases hx
    · rw [← c]; exact ltb_asymm h
    · exact ltb_asymm (ltb_trans c h)
theorem toP_dn (k : ByteArray) (b : Bool) : Dn (toP k b) := by
  intro x y h hy
  cases b with
  | true => exact ltb_trans h hy
  | false =>
    simp only [toP, Bool.false_eq_true, if_false, Bool.not_eq_true'] at hy ⊢
    rcases ltb_cases y.1 k with c | c | c
    · exact ltb_asymm (ltb_trans h c)
    · rw [← c]; exact ltb_asymm h
    · rw [c] at hy; cases hy
theorem frP_hi {k : ByteArray} {b : Bool} {x : It} (h : ltb k x.1 = true) : frP k b x = true := by cases b <;> simp [frP, h, ltb_asymm h]
theorem frP_lo {k : ByteArray} {b : Bool} {x : It} (h : ltb x.1 k = true) : frP k b x = false := by cases b <;> simp [frP, h, ltb_asymm h]
theorem toP_hi {k : ByteArray} {b : Bool} {x : It} (h : ltb k x.1 = true) : toP k b x = false := by cases b <;> simp [toP, h, ltb_asymm h]
theorem toP_lo {k : ByteArray} {b : Bool} {x : It} (h : ltb x.1 k = true) : toP k b x = true := by cases b <;> simp [toP, h, ltb_asymm h]
/-- An item that a pointer leads to, or none. -/
def tellV (o : Option It) : Value := match o with | none => .tuple #[.string ⟨#[]⟩, .slice none 0 0, .bool false] | some x => .tuple #[.string x.1, .slice x.2.a x.2.n x.2.c, .bool true]
def Best (w : World) (v : Value) (o : Option It) : Prop := (v = .pointer none ∧ o = none) ∨ ∃ g j x, v = .pointer (some ⟨g, j, none⟩) ∧ o = some x ∧ g < w.heap.size ∧ w.cell? ⟨g, j, none⟩ = some (.string x.1) ∧ w.cell? ⟨g, j + 1, none⟩ = some (.slice x.2.a x.2.n x.2.c)
theorem Best.on {w w' : World} {v : Value} {o : Option It} (h : Best w v o) (hb : Below w.heap.size w w') : Best w' v o := by
  rcases h with h | ⟨g, j, x, e1, e2, h1, h2, h3⟩
  · exact .inl h
  · exact .inr ⟨g, j, x, e1, e2, Nat.lt_of_lt_of_le h1 hb.size, (hb.cell (p := ⟨g, j, none⟩) h1).trans h2, (hb.cell (p := ⟨g, j + 1, none⟩) h1).trans h3⟩
set_option maxRecDepth 100000 in
theorem tell_ {w : World} {v : Value} {o : Option It} (h : Best w v o) : Calls Tryz.prog 62 #[v] w fun e w' => e = .returned (tellV o) ∧ Below w.heap.size w w' := by
  rcases h with ⟨rfl, rfl⟩ | ⟨g, j, x, rfl, rfl, h1, h2, h3⟩
  · have HB := Lib.hid (Below.refl w.heap.size w)
    unfold tellV
    go_enter Tryz.func62, Tryz.ntmps62
    go_wp2_with fail
    go_ret3
    exact ⟨rfl, HB.out⟩
  · have HB := Lib.hid (below_drew w)
    obtain ⟨x1, x2⟩ := x
    simp only at h2 h3
    unfold tellV
    clear h1
    go_enter Tryz.func62, Tryz.ntmps62
    go_wp2_with fail
    go_region_held (fun V => V.cell? ⟨g, j, none⟩ = some (.string x1) ∧ V.cell? ⟨g, j + 1, none⟩ = some (.slice x2.a x2.n x2.c)) (go_keep) (fail)
    go_wp2_with fail
    go_ret3
    exact ⟨rfl, HB.out⟩
theorem Best.item {w : World} {M : Nat → Option Nd} {q : Nat} {n : Nd} {A B : List It} {x : It} (h : Store w M) (hq : M q = some n) (hI : n.its = A ++ x :: B) {g c : Nat} (hv : n.iv = .slice (some ⟨g, 0, none⟩) (A.length + B.length + 1) c) : Best w (.pointer (some ⟨g, A.length * 2, none⟩)) (some x) := by
  obtain ⟨g', c', e1, h1, h2, h3, _⟩ := h.item hq hI
  rw [hv] at e1
  simp only [Value.slice.injEq, Option.some.injEq, Addr.mk.injEq] at e1
  obtain ⟨⟨rfl, _⟩, _⟩ := e1
  exact .inr ⟨g, _, x, rfl, rfl, h1, h2, h3⟩
end Go.Proofs.YtagamkahfiackaaGreatDoor
