/- Plain facts: the items of a list in order that lie in a range, from the first on and from the last on. No program is in it; Has, behindFrom, aheadOfTo, Empty; Regions that draw their order and make memory: each operation that may come up, one by one. -/
import Derived.Test.YtalmanfjiblhcaaGreatJ9
import Derived.Test.YtalmanfjiblhcaaGreatJ17
import Derived.Test.YtalmanfjiblhcaaGreatJ16
import Derived.Test.YtalmanfjiblhcaaGreatJ6
namespace Go.Proofs.YtalmanfjiblhcaaGreat
open Go.Lib
def selR (r : Rg) (l : List It) : List It := l.filter fun x => hasR r x.1
theorem beh_up {r : Rg} {x y : ByteArray} (h : ltb x y = true) (hx : behR r x = true) : behR r y = true := by
 unfold behR at hx ⊢
 cases hf : r.hf with
 | false => rfl
 | true =>
   rw [hf] at hx
   simp only [Bool.not_true, Bool.false_or, Bool.or_eq_true, Bool.and_eq_true] at hx ⊢
   left
   rcases hx with q | ⟨q, _⟩
   · exact ltb_trans q h
   · unfold sameb at q
     simp only [Bool.and_eq_true, Bool.not_eq_true'] at q
     rw [ltb_total q.1 q.2] at h
     exact h
theorem ahd_dn {r : Rg} {x y : ByteArray} (h : ltb x y = true) (hy : ahdR r y = true) : ahdR r x = true := by
 unfold ahdR at hy ⊢
 cases hf : r.ht with
 | false => rfl
 | true =>
   rw [hf] at hy
   simp only [Bool.not_true, Bool.false_or, Bool.or_eq_true, Bool.and_eq_true] at hy ⊢
   left
   rcases hy with q | ⟨q, _⟩
   · exact ltb_trans h q
   · unfold sameb at q
     simp only [Bool.and_eq_true, Bool.not_eq_true'] at q
     rw [ltb_total q.1 q.2] at h
     exact h
theorem frP_beh (r : Rg) (hf : r.hf = true) : frP r.f r.pf = fun x => behR r x.1 := by
 funext x
 unfold frP behR
 rw [hf]
 rcases ltb_cases x.1 r.f with q | q | q
 · cases r.pf <;> simp [q, ltb_asymm q, sameb_lt q]
 · rw [q]; cases r.pf <;> simp [ltb_irrefl, sameb_self]
 · cases r.pf <;> simp [q, ltb_asymm q, sameb_gt q]
def lstO (r : Rg) (l : List It) : Option It := l.find? fun x => behR r x.1
theorem lst_first {r : Rg} (hf : r.hf = false) (l : List It) : lstO r l = l.head? := by
 unfold lstO
 cases l with
 | nil => rfl
 | cons x l => rw [List.find?_cons_of_pos (by unfold behR; rw [hf]; rfl)]; rfl
theorem find_split {P : It → Bool} : ∀ l : List It, ∃ j, j ≤ l.length ∧ l.find? P = l[j]? ∧ (∀ x ∈ l.take j, P x = false) ∧ (∀ x, l[j]? = some x → P x = true)
 | [] => ⟨0, Nat.le_refl _, rfl, by simp, by simp⟩
 | a :: l => by
   by_cases h : P a = true
   · exact ⟨0, Nat.zero_le _, by rw [List.find?_cons_of_pos h]; rfl, by simp, fun x hx => by simp at hx; rw [← hx]; exact h⟩
   · obtain ⟨j, h1, h2, h3, h4⟩ := find_split (P := P) l
     refine ⟨j + 1, by simp; omega, by rw [List.find?_cons_of_neg h, h2]; rfl, ?_, fun x hx => h4 x (by simpa using hx)⟩
     intro x hx
     rw [List.take_succ_cons] at hx
     rcases List.mem_cons.1 hx with rfl | hx
     · simpa using h
     · exact h3 x hx
theorem srt_at {l : List It} (hs : Srt l) {i j : Nat} {x y : It} (hij : i < j) (hi : l[i]? = some x) (hj : l[j]? = some y) : ltb x.1 y.1 = true := by
 obtain ⟨h1, e1⟩ := List.getElem?_eq_some_iff.1 hi
 obtain ⟨h2, e2⟩ := List.getElem?_eq_some_iff.1 hj
 have := List.pairwise_iff_getElem.1 hs i j h1 h2 hij
 rw [e1, e2] at this
 exact this
theorem mem_drop_at {l : List It} {j : Nat} {y : It} (h : y ∈ l.drop j) : ∃ i, j ≤ i ∧ l[i]? = some y := by
 obtain ⟨k, hk⟩ := List.getElem?_of_mem h
 rw [List.getElem?_drop] at hk
 exact ⟨j + k, by omega, hk⟩
structure Fo (r : Rg) (l : List It) (j : Nat) : Prop where
 le : j ≤ l.length
 beh : ∀ x ∈ l.drop j, behR r x.1 = true
theorem fo_start {l : List It} (hs : Srt l) (r : Rg) : ∃ j, lstO r l = l[j]? ∧ Fo r l j ∧ selR r (l.take j) = [] := by
 obtain ⟨j, h1, h2, h3, h4⟩ := find_split (P := fun x : It => behR r x.1) l
 refine ⟨j, h2, ⟨h1, fun x hx => ?_⟩, List.filter_eq_nil_iff.2 fun x hx => ?_⟩
 · obtain ⟨i, hi, hx2⟩ := mem_drop_at hx
   rcases Nat.lt_or_ge j i with q | q
   · obtain ⟨y, hy⟩ : ∃ y, l[j]? = some y := ⟨_, List.getElem?_eq_getElem (by have := (List.getElem?_eq_some_iff.1 hx2).1; omega)⟩
     exact beh_up (srt_at hs q hy hx2) (h4 y hy)
   · obtain rfl : i = j := by omega
     exact h4 x hx2
 · unfold hasR; rw [h3 x hx]; simp
theorem sel_snoc {r : Rg} {l : List It} {j : Nat} {x : It} (hx : l[j]? = some x) : selR r (l.take (j + 1)) = if hasR r x.1 then selR r (l.take j) ++ [x] else selR r (l.take j) := by
 unfold selR
 rw [List.take_add_one, hx, List.filter_append]
 simp only [Option.toList]
 by_cases h : hasR r x.1 = true
 · simp [h]
 · simp [h]
theorem Fo.step {r : Rg} {l : List It} {j : Nat} {x : It} (h : Fo r l j) (hx : l[j]? = some x) : Fo r l (j + 1) := by
 have hj := (List.getElem?_eq_some_iff.1 hx).1
 refine ⟨by omega, fun y hy => h.beh y ?_⟩
 rw [← List.drop_drop] at hy
 exact List.mem_of_mem_drop hy
theorem Fo.here {r : Rg} {l : List It} {j : Nat} {x : It} (h : Fo r l j) (hx : l[j]? = some x) (ha : ahdR r x.1 = true) : hasR r x.1 = true := by
 unfold hasR
 rw [ha, h.beh x ?_]
 · rfl
 · have : l.drop j = x :: l.drop (j + 1) := by
    obtain ⟨h1, h2⟩ := List.getElem?_eq_some_iff.1 hx
    rw [← h2, ← List.drop_eq_getElem_cons]
   rw [this]; exact List.mem_cons_self
theorem Fo.stop {r : Rg} {l : List It} {j : Nat} {x : It} (hs : Srt l) (hx : l[j]? = some x) (ha : ahdR r x.1 = false) : selR r (l.take j) = selR r l := by
 conv => rhs; rw [← List.take_append_drop j l]
 unfold selR
 have hnil : (l.drop j).filter (fun x => hasR r x.1) = [] := List.filter_eq_nil_iff.2 fun y hy => by
  obtain ⟨i, hi, hy2⟩ := mem_drop_at hy
  have : ahdR r y.1 = false := by
   rcases Nat.lt_or_ge j i with q | q
   · cases hh : ahdR r y.1 with
     | false => rfl
     | true => rw [ahd_dn (srt_at hs q hx hy2) hh] at ha; cases ha
   · obtain rfl : i = j := by omega
     rw [hx] at hy2; cases hy2; exact ha
  unfold hasR
  rw [this]; simp
 rw [List.filter_append, hnil, List.append_nil]
theorem sel_pre (r : Rg) (l : List It) (j : Nat) : selR r (l.take j) <+: selR r l := by
 refine ⟨selR r (l.drop j), ?_⟩
 unfold selR
 rw [← List.filter_append, List.take_append_drop]
theorem next_at {l : List It} (hs : Srt l) {j : Nat} {x : It} (hx : l[j]? = some x) : l.find? (frP x.1 true) = l[j + 1]? := by
 obtain ⟨i, h1, h2, h3, h4⟩ := find_split (P := frP x.1 true) l
 rw [h2]
 have hj := (List.getElem?_eq_some_iff.1 hx).1
 congr 1
 have a1 : ¬ i ≤ j := fun q => by
  obtain ⟨y, hy⟩ : ∃ y, l[i]? = some y := ⟨_, List.getElem?_eq_getElem (by omega)⟩
  have := h4 y hy
  simp only [frP, if_true] at this
  rcases Nat.lt_or_ge i j with q2 | q2
  · rw [ltb_asymm (srt_at hs q2 hy hx)] at this; cases this
  · obtain rfl : i = j := by omega
    rw [hx] at hy; cases hy
    rw [ltb_irrefl] at this; cases this
 have a2 : ¬ j + 1 < i := fun q => by
  obtain ⟨y, hy⟩ : ∃ y, l[j + 1]? = some y := ⟨_, List.getElem?_eq_getElem (by omega)⟩
  have hm : y ∈ l.take i := by
   refine List.mem_of_getElem? (i := j + 1) ?_
   rw [List.getElem?_take, if_pos q]; exact hy
  have := h3 y hm
  simp only [frP, if_true] at this
  rw [srt_at hs (Nat.lt_succ_self j) hx hy] at this
  cases this
 omega
end Go.Proofs.YtalmanfjiblhcaaGreat
namespace Go.Proofs.YtalmanfjiblhcaaGreat
open Go.RowKit Go.Sort
def rgV (r : Rg) : Value := .agg #[.string r.f, .string r.t, .bool r.hf, .bool r.ht, .bool r.pf, .bool r.pt]
def Ord3 (a b : ByteArray) (x y z : Bool) : Prop := Op.bytesLess a.toList b.toList = x ∧ Op.bytesLess b.toList a.toList = y ∧ (a.toList == b.toList) = z ∧ (b.toList == a.toList) = z ∧ ltb a b = x ∧ ltb b a = y ∧ sameb a b = z ∧ sameb b a = z
theorem ord3 (a b : ByteArray) : Ord3 a b true false false ∨ Ord3 a b false false true ∨ Ord3 a b false true false := by
 have ne : ∀ {a b : ByteArray}, a ≠ b → (a.toList == b.toList) = false := fun {a b} h => by
  simp only [beq_eq_false_iff_ne, ne_eq]
  exact fun e => h (toList_inj e)
 rcases ltb_cases a b with h | rfl | h
 · exact .inl ⟨h, ltb_asymm h, ne (ltb_ne h), ne (Ne.symm (ltb_ne h)), h, ltb_asymm h, sameb_lt h, sameb_gt h⟩
 · exact .inr (.inl ⟨less_irrefl _, less_irrefl _, by simp, by simp, ltb_irrefl _, ltb_irrefl _, sameb_self _, sameb_self _⟩)
 · exact .inr (.inr ⟨ltb_asymm h, h, ne (Ne.symm (ltb_ne h)), ne (ltb_ne h), ltb_asymm h, h, sameb_gt h, sameb_lt h⟩)
set_option maxRecDepth 100000 in
theorem ahd_ (r : Rg) (k : ByteArray) (w : World) : Calls Tryz.prog 119 #[rgV r, .string k] w fun e w' => e = .returned (.bool (ahdR r k)) ∧ Below w.heap.size w w' := by
 obtain ⟨f, t, hf, ht, pf, po⟩ := r
 have HB := Lib.hid (below_alloc w (.cells #[.string f, .string t, .bool hf, .bool ht, .bool pf, .bool po] 46))
 obtain ⟨R, hR⟩ : ∃ R, R = ahdR ⟨f, t, hf, ht, pf, po⟩ k := ⟨_, rfl⟩
 have HR := Lib.hid hR
 rw [← hR]
 clear hR
 unfold rgV
 rcases ord3 k t with ⟨h1, h2, h3, _, h5, _, h6, _⟩ | ⟨h1, h2, h3, _, h5, _, h6, _⟩ | ⟨h1, h2, h3, _, h5, _, h6, _⟩
 all_goals (
  cases ht <;> cases po
  all_goals (
   go_enter Tryz.func119, Tryz.ntmps119
   go_wp2_with fail
   go_ret
   exact ⟨by rw [HR.out]; simp [ahdR, h5, h6], HB.out⟩))
def RgAt (w : World) (b : Nat) (r : Rg) : Prop := w.cell? ⟨b, 0, none⟩ = some (.string r.f) ∧ w.cell? ⟨b, 1, none⟩ = some (.string r.t) ∧ w.cell? ⟨b, 2, none⟩ = some (.bool r.hf) ∧ w.cell? ⟨b, 3, none⟩ = some (.bool r.ht) ∧ w.cell? ⟨b, 4, none⟩ = some (.bool r.pf) ∧ w.cell? ⟨b, 5, none⟩ = some (.bool r.pt)
theorem RgAt.on {w w' : World} {b N : Nat} {r : Rg} (h : RgAt w b r) (hb : Below N w w') (hN : b < N) : RgAt w' b r := by
 obtain ⟨h0, h1, h2, h3, h4, h5⟩ := h
 exact ⟨(hb.cell (p := ⟨b, 0, none⟩) hN).trans h0, (hb.cell (p := ⟨b, 1, none⟩) hN).trans h1, (hb.cell (p := ⟨b, 2, none⟩) hN).trans h2, (hb.cell (p := ⟨b, 3, none⟩) hN).trans h3, (hb.cell (p := ⟨b, 4, none⟩) hN).trans h4, (hb.cell (p := ⟨b, 5, none⟩) hN).trans h5⟩
end Go.Proofs.YtalmanfjiblhcaaGreat
namespace Go.Proofs.YtalmanfjiblhcaaGreat
open Go.RowKit Go.Sort
section
variable {P : Program} {l : List Oper} {Q : Exit → Act → World → Prop} {md : Region.Mode} {A B C : World → Prop} {e1 e2 : Nat}
theorem blkKeep {V w' : World} {p : Nat} {o : Obj} (hb : Below V.heap.size V w') (h : V.heap[p]? = some o) : w'.heap[p]? = some o := (hb.block p (blk_lt h)).trans h
theorem cell_same {V V' : World} {b o : Nat} (h : V'.heap[b]? = V.heap[b]?) : V'.cell? ⟨b, o, none⟩ = V.cell? ⟨b, o, none⟩ := by unfold World.cell?; simp only [h]
end
end Go.Proofs.YtalmanfjiblhcaaGreat
