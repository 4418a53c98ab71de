/- Keys of values plainly: which values are right for the key's columns; texts of values. No program is walked in it. -/
import Derived.Test.YtlldamgnfaikhaaGreatDoorRwKey
import Derived.Test.YtlldamgnfaikhaaGreatDoorRwPr0
import Derived.Lib.Join
import Derived.Lib.ItoaLen
namespace Go.Proofs.YtlldamgnfaikhaaGreatDoor
open Go.Lib

/-- What is wrong with a value of a key, by its number. -/
def fitK (c : Col) (v : Val) : Int := if validN v ≠ 0 then validN v else if v.k = 0 ∨ v.k ≠ c.k then 7 else 0
def koZ : List Col → List Val → Int
  | c :: cs, v :: vs => if fitK c v ≠ 0 then fitK c v else koZ cs vs
  | _, _ => 0
def koR (cs : List Col) (vs : List Val) : Int := if vs.length ≠ cs.length then 1 else koZ cs vs
theorem koZ_at : ∀ (i : Nat) (cs : List Col) (vs : List Val), (∀ j (h : j < cs.length) (h' : j < vs.length), j < i → fitK cs[j] vs[j] = 0) → koZ cs vs = koZ (cs.drop i) (vs.drop i)
  | 0, _, _, _ => rfl
  | i + 1, [], vs, _ => by simp [koZ]
  | i + 1, c :: cs, [], _ => by rw [List.drop_nil]; cases (c :: cs).drop (i + 1) <;> simp [koZ]
  | i + 1, c :: cs, v :: vs, h => by
    have h0 : fitK c v = 0 := h 0 (by simp) (by simp) (by omega)
    rw [koZ, h0, if_neg (by simp), List.drop_succ_cons, List.drop_succ_cons]
    exact koZ_at i cs vs fun j hj hj' hji => h (j + 1) (by simp; omega) (by simp; omega) (by omega)
theorem koR_bad {cs : List Col} {vs : List Val} (hl : vs.length = cs.length) {i : Nat} (hi : i < cs.length) (hi' : i < vs.length) (h : ∀ j (h : j < cs.length) (h' : j < vs.length), j < i → fitK cs[j] vs[j] = 0) {E : Int} (hE : fitK cs[i] vs[i] = E) (h0 : E ≠ 0) : koR cs vs = E := by
  rw [koR, if_neg (by simp [hl]), koZ_at i cs vs h, List.drop_eq_getElem_cons hi, List.drop_eq_getElem_cons hi', koZ, hE, if_pos h0]
theorem koR_ok {cs : List Col} {vs : List Val} (hl : vs.length = cs.length) (h : ∀ j (h : j < cs.length) (h' : j < vs.length), fitK cs[j] vs[j] = 0) : koR cs vs = 0 := by
  rw [koR, if_neg (by simp [hl]), koZ_at cs.length cs vs (fun j hj hj' _ => h j hj hj'), List.drop_length]; rfl
def cZ : Col := ⟨⟨#[]⟩, 0, false, false⟩
/-- The key's columns. -/
def kcols (cs : List Col) : List Col := (keyI cs).map fun p => cs.getD p cZ
theorem kcols_len (cs : List Col) : (kcols cs).length = (keyI cs).length := by simp [kcols]
theorem kcols_at {cs : List Col} {j p : Nat} (h : j < (kcols cs).length) (e : (keyI cs).getD j 0 = p) (hp : p < cs.length) : (kcols cs)[j] = cs[p] := by
  have hj : j < (keyI cs).length := by rw [← kcols_len]; exact h
  have e2 : (keyI cs)[j] = p := by rw [← e]; simp [List.getD_eq_getElem?_getD, List.getElem?_eq_getElem hj]
  have hs : (kcols cs)[j]? = some cs[p] := by
    unfold kcols
    rw [List.getElem?_map, List.getElem?_eq_getElem hj, e2]
    simp [List.getD_eq_getElem?_getD, List.getElem?_eq_getElem hp]
  exact (List.getElem?_eq_some_iff.1 hs).2
theorem keyI_lt {cs : List Col} {j : Nat} (h : j < (keyI cs).length) : (keyI cs).getD j 0 < cs.length := by
  have hm : (keyI cs).getD j 0 ∈ keyI cs := by
    rw [List.getD_eq_getElem?_getD, List.getElem?_eq_getElem h]
    exact List.getElem_mem h
  exact keyT_lt hm
/-- KeyOf's answer. -/
def kofErr (cs : List Col) (vs : List Val) : Int := if koR (kcols cs) vs ≠ 0 then koR (kcols cs) vs else errL vs
def kofTxt (cs : List Col) (vs : List Val) : List UInt8 := if koR (kcols cs) vs ≠ 0 then [] else txtL vs
/-! ### Texts of values -/
def txE : List Val → Int
  | [] => 0
  | v :: vs => if validN v ≠ 0 then validN v else txE vs
def joinV (vs : List Val) : List UInt8 := Lib.join (vs.map printL) [44, 32]
def txT (vs : List Val) : List UInt8 := if txE vs = 0 then joinV vs else []
theorem txE_at : ∀ (i : Nat) (vs : List Val), (∀ j (h : j < vs.length), j < i → validN vs[j] = 0) → txE vs = txE (vs.drop i)
  | 0, _, _ => rfl
  | i + 1, [], _ => rfl
  | i + 1, v :: vs, h => by
    have h0 : validN v = 0 := h 0 (by simp) (by omega)
    rw [txE, h0, if_neg (by simp), List.drop_succ_cons]
    exact txE_at i vs fun j hj hji => h (j + 1) (by simp; omega) (by omega)
theorem txE_bad {vs : List Val} {i : Nat} (hi : i < vs.length) (h : ∀ j (h : j < vs.length), j < i → validN vs[j] = 0) {E : Int} (hE : validN vs[i] = E) (h0 : E ≠ 0) : txE vs = E := by
  rw [txE_at i vs h, List.drop_eq_getElem_cons hi, txE, hE, if_pos h0]
theorem txE_ok {vs : List Val} (h : ∀ j (h : j < vs.length), validN vs[j] = 0) : txE vs = 0 := by
  rw [txE_at vs.length vs (fun j hj _ => h j hj), List.drop_length]; rfl
theorem joinTail_snoc (sep : List UInt8) (r : List (List UInt8)) (x : List UInt8) : Lib.joinTail sep (r ++ [x]) = Lib.joinTail sep r ++ (sep ++ x) := by
  simp [Lib.joinTail]
theorem join_snoc (l : List (List UInt8)) (x sep : List UInt8) (h : l ≠ []) : Lib.join (l ++ [x]) sep = Lib.join l sep ++ (sep ++ x) := by
  cases l with
  | nil => exact absurd rfl h
  | cons y r => rw [List.cons_append, Lib.join_cons, Lib.join_cons, joinTail_snoc, List.append_assoc]
theorem joinV_zero (v : Val) : joinV [v] = printL v := Lib.join_one _ _
theorem joinV_take {vs : List Val} {i : Nat} (hi : i < vs.length) (h0 : 0 < i) : joinV (vs.take (i + 1)) = joinV (vs.take i) ++ ([44, 32] ++ printL vs[i]) := by
  unfold joinV
  rw [List.take_add_one, List.getElem?_eq_getElem hi, List.map_append]
  refine join_snoc _ _ _ ?_
  intro e
  have : ((vs.take i).map printL).length = 0 := by rw [e]; rfl
  rw [List.length_map, List.length_take] at this
  omega
theorem joinV_first {vs : List Val} (hi : 0 < vs.length) : joinV (vs.take (0 + 1)) = printL vs[0] := by
  cases vs with
  | nil => simp at hi
  | cons v vs => simp only [Nat.zero_add, List.take_succ_cons, List.take_zero, List.getElem_cons_zero]; exact joinV_zero v
theorem print_len {v : Val} (h : validN v = 0) (hn : inI v.n) : (printL v).length ≤ 8200 := by
  have ht := size_of_valid h
  unfold printL
  split
  · have := Lib.itoa_length_le v.n hn.1 hn.2
    omega
  · split
    · have := dbl_len v.t.data.toList
      rw [← size_list] at this
      simp only [List.length_cons, List.length_append, List.length_nil]
      omega
    · split
      · split <;> simp [trueW, falseW]
      · simp [nullW]
theorem lens_le : ∀ vs : List Val, (∀ v ∈ vs, validN v = 0) → (∀ v ∈ vs, inI v.n) → Lib.lens (vs.map printL) ≤ 8200 * vs.length
  | [], _, _ => by simp [Lib.lens]
  | v :: vs, h1, h2 => by
    have := lens_le vs (fun x hx => h1 x (List.mem_cons_of_mem _ hx)) (fun x hx => h2 x (List.mem_cons_of_mem _ hx))
    have := print_len (h1 v List.mem_cons_self) (h2 v List.mem_cons_self)
    simp only [List.map_cons, Lib.lens, List.length_cons, List.sum_cons] at *
    omega
theorem joinV_len {vs : List Val} (h1 : ∀ v ∈ vs, validN v = 0) (h2 : ∀ v ∈ vs, inI v.n) (hl : vs.length ≤ 1048576) : (joinV vs).length ≤ 8700000000 := by
  cases vs with
  | nil => simp [joinV, Lib.join]
  | cons v vs =>
    have := lens_le (v :: vs) h1 h2
    unfold joinV
    rw [List.map_cons] at this ⊢
    rw [Lib.join_length]
    simp only [List.length_cons, List.length_map, List.length_nil] at *
    omega
end Go.Proofs.YtlldamgnfaikhaaGreatDoor
