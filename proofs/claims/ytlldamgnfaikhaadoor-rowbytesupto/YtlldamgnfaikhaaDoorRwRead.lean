/- Rows read plainly: what is read is laid so; bytes are at most one row's. No program is walked in it. -/
import Derived.Test.YtlldamgnfaikhaaDoorRwMath
namespace Go.Proofs.YtlldamgnfaikhaaDoor
open Go.Lib

theorem zz_unzz (v : Nat) : zz (unzz v) = v := by
  unfold zz unzz
  split <;> split <;> omega
theorem unzz_in {v : Nat} (h : v < 18446744073709551616) : inI (unzz v) := by
  unfold inI unzz
  split <;> constructor <;> omega
theorem sb_bs {ys : List Nat} (h : ∀ y ∈ ys, y < 256) : sb (bs ys) = ys := by
  unfold sb bs
  simp only
  rw [List.map_map]
  conv => rhs; rw [← List.map_id ys]
  refine List.map_congr_left fun y hy => ?_
  have := h y hy
  simp [UInt8.toNat_ofNat']
  omega
/-- Bytes that are a row's. -/
def IsRow (cs : List Col) (xs : List Nat) (l : List Val) : Prop := chkR cs l = 0 ∧ (∀ v ∈ l, inI v.n) ∧ xs = rowB l
theorem isRow_one {cs : List Col} {xs : List Nat} {l l' : List Val} (h : IsRow cs xs l) (h' : IsRow cs xs l') : l = l' := by
  obtain ⟨h1, h2, h3⟩ := h
  obtain ⟨g1, g2, g3⟩ := h'
  exact row_inj cs l l' (chkR_zero h1).1 (chkR_zero g1).1 (chkR_zero h1).2 (chkR_zero g1).2 h2 g2 (h3.symm.trans g3)
theorem some_back {k : Int} {xs : List Nat} {v : Val} {m : Nat} (hb : ∀ x ∈ xs, x < 256) (h : someR k xs = (v, m, true)) : xs.take m = (layV v).drop 1 ∧ v.k ≠ 0 ∧ m ≤ xs.length ∧ inI v.n := by
  unfold someR at h
  split at h
  · rename_i hk
    simp only [Prod.mk.injEq, decide_eq_true_eq] at h
    obtain ⟨rfl, rfl, h0⟩ := h
    simp only [rdI] at h0 ⊢
    obtain ⟨h1, h2, h3, h4⟩ := rdU_back xs hb h0
    refine ⟨?_, by decide, h3, unzz_in h4⟩
    simp [layV, zz_unzz, h1]
  · split at h
    · simp only [Prod.mk.injEq, decide_eq_true_eq] at h
      obtain ⟨rfl, rfl, h0⟩ := h
      unfold rdT at h0 ⊢
      rw [if_neg (by decide)] at h0 ⊢
      by_cases c1 : (rdU xs).2.2 ≠ 0
      · rw [if_pos c1] at h0; exact absurd h0 c1
      rw [if_neg c1] at h0 ⊢
      by_cases c2 : (4096 : Int) < (rdU xs).1
      · rw [if_pos c2] at h0; simp at h0
      rw [if_neg c2] at h0 ⊢
      by_cases c3 : xs.length - (rdU xs).2.1 < (rdU xs).1
      · rw [if_pos c3] at h0; simp at h0
      rw [if_neg c3]
      obtain ⟨h1, h2, h3, h4⟩ := rdU_back xs hb (by simpa using c1)
      have hl : ((xs.drop (rdU xs).2.1).take (rdU xs).1).length = (rdU xs).1 := by rw [List.length_take, List.length_drop]; omega
      refine ⟨?_, by simp, by simp only; omega, by simp [inI]⟩
      have e : layV ⟨2, 0, bs ((xs.drop (rdU xs).2.1).take (rdU xs).1), false⟩ = 1 :: (enc (rdU xs).1 ++ (xs.drop (rdU xs).2.1).take (rdU xs).1) := by
        unfold layV
        rw [if_neg (by simp), if_neg (by simp), if_pos rfl]
        simp only
        rw [bs_size, hl, sb_bs (fun y hy => hb y (List.mem_of_mem_drop (List.mem_of_mem_take hy)))]
      rw [e, List.drop_one, List.tail_cons, h1]
      simp only
      rw [List.take_add]
    · split at h
      · rename_i hc
        obtain ⟨hk, hl, hx⟩ := hc
        simp only [Prod.mk.injEq, and_true] at h
        obtain ⟨rfl, rfl⟩ := h
        refine ⟨?_, by simp, hl, by simp [inI]⟩
        cases xs with
        | nil => simp at hl
        | cons y ys =>
          simp only [List.getD_cons_zero] at hx ⊢
          rcases (by omega : y = 0 ∨ y = 1) with rfl | rfl <;> simp [layV]
      · simp at h
theorem first_back {k : Int} {xs : List Nat} {v : Val} {m : Nat} (hb : ∀ x ∈ xs, x < 256) (h : firstR k xs = (v, m, true)) : xs.take m = layV v ∧ m ≤ xs.length ∧ inI v.n := by
  unfold firstR at h
  cases xs with
  | nil => simp at h
  | cons y ys =>
    simp only [List.length_cons, List.getD_cons_zero, List.drop_succ_cons, List.drop_zero] at h
    by_cases c1 : ys.length + 1 = 0 ∨ 1 < y
    · rw [if_pos c1] at h; simp at h
    rw [if_neg c1] at h
    by_cases c2 : y = 0
    · rw [if_pos c2] at h
      simp only [Prod.mk.injEq, and_true] at h
      obtain ⟨rfl, rfl⟩ := h
      subst c2
      refine ⟨by simp [layV, vZ], by simp, by simp [inI, vZ]⟩
    · rw [if_neg c2] at h
      simp only [Prod.mk.injEq] at h
      obtain ⟨h1, rfl, h3⟩ := h
      obtain rfl : y = 1 := by omega
      obtain ⟨q1, q2, q3, q4⟩ := some_back (k := k) (xs := ys) (v := v) (m := (someR k ys).2.1) (fun x hx => hb x (List.mem_cons_of_mem _ hx)) (by rw [← h1, ← h3])
      refine ⟨?_, by simp only [List.length_cons]; omega, q4⟩
      rw [Nat.add_comm 1, List.take_succ_cons, q1]
      unfold layV
      rw [if_neg q2]
      simp
/-- What Decode has read: i values, and what is left. -/
def DecI (cs : List Col) (xs : List Nat) (i : Nat) (p : List Val) (r : List Nat) : Prop :=
  p.length = i ∧ (∀ v ∈ p, inI v.n) ∧ xs = rowB p ++ r ∧ ∀ l, IsRow cs xs l → l.take i = p ∧ rowB (l.drop i) = r
theorem dec_start (cs : List Col) (xs : List Nat) : DecI cs xs 0 [] xs :=
  ⟨rfl, fun v hv => by simp at hv, rfl, fun l hl => ⟨rfl, by rw [List.drop_zero]; exact hl.2.2.symm⟩⟩
theorem row_at {cs : List Col} {xs : List Nat} {l : List Val} (h : IsRow cs xs l) {i : Nat} (hi : i < cs.length) : ∃ hl : i < l.length, rowB (l.drop i) = layV l[i] ++ rowB (l.drop (i + 1)) ∧ validN l[i] = 0 ∧ inI l[i].n ∧ (l[i].k = 0 ∨ l[i].k = cs[i].k) := by
  obtain ⟨h1, h2, h3⟩ := h
  obtain ⟨hl, hz⟩ := chkR_zero h1
  have hlt : i < l.length := by omega
  refine ⟨hlt, ?_, ?_⟩
  · rw [List.drop_eq_getElem_cons hlt, rowB_cons]
  · have := fit_valid (chkZ_zero _ _ hz i hi hlt)
    exact ⟨this.1, h2 _ (List.getElem_mem hlt), this.2⟩
theorem dec_next {cs : List Col} {xs : List Nat} {i : Nat} {p : List Val} {r : List Nat} (hi : i < cs.length) (h : DecI cs xs i p r) (hb : ∀ x ∈ r, x < 256) {v : Val} {m : Nat} (hf : firstR cs[i].k r = (v, m, true)) : DecI cs xs (i + 1) (p ++ [v]) (r.drop m) := by
  obtain ⟨h1, h2, h3, h4⟩ := h
  obtain ⟨q1, q2, q3⟩ := first_back hb hf
  refine ⟨by simp [h1], ?_, ?_, ?_⟩
  · intro x hx
    rcases List.mem_append.1 hx with hx | hx
    · exact h2 x hx
    · rw [List.mem_singleton.1 hx]; exact q3
  · rw [h3]
    unfold rowB
    rw [List.flatMap_append, List.append_assoc]
    congr 1
    simp only [List.flatMap_cons, List.flatMap_nil, List.append_nil]
    rw [← q1, List.take_append_drop]
  · intro l hl
    obtain ⟨g1, g2⟩ := h4 l hl
    obtain ⟨hlt, e, z1, z2, z3⟩ := row_at hl hi
    rw [← g2, e, first_lay z1 z2 z3] at hf
    simp only [Prod.mk.injEq, and_true] at hf
    obtain ⟨hv, hm⟩ := hf
    constructor
    · rw [List.take_add_one, List.getElem?_eq_getElem hlt, g1, ← hv]; rfl
    · rw [← g2, e, ← hm, List.drop_left]
theorem dec_bad {cs : List Col} {xs : List Nat} {i : Nat} {p : List Val} {r : List Nat} (hi : i < cs.length) (h : DecI cs xs i p r) (hf : (firstR cs[i].k r).2.2 = false) : ∀ l, ¬ IsRow cs xs l := by
  intro l hl
  obtain ⟨g1, g2⟩ := h.2.2.2 l hl
  obtain ⟨hlt, e, z1, z2, z3⟩ := row_at hl hi
  rw [← g2, e, first_lay z1 z2 z3] at hf
  cases hf
theorem dec_rest {cs : List Col} {xs : List Nat} {p : List Val} {r : List Nat} (h : DecI cs xs cs.length p r) (hr : r ≠ []) : ∀ l, ¬ IsRow cs xs l := by
  intro l hl
  obtain ⟨g1, g2⟩ := h.2.2.2 l hl
  have := (chkR_zero hl.1).1
  rw [← this, List.drop_length, rowB_nil] at g2
  exact hr g2.symm
theorem dec_chk {cs : List Col} {xs : List Nat} {p : List Val} {r : List Nat} (h : DecI cs xs cs.length p r) (hc : chkR cs p ≠ 0) : ∀ l, ¬ IsRow cs xs l := by
  intro l hl
  obtain ⟨g1, g2⟩ := h.2.2.2 l hl
  have := (chkR_zero hl.1).1
  rw [← this, List.take_length] at g1
  exact hc (g1 ▸ hl.1)
theorem dec_ok {cs : List Col} {xs : List Nat} {p : List Val} (h : DecI cs xs cs.length p []) (hc : chkR cs p = 0) : IsRow cs xs p :=
  ⟨hc, h.2.1, by have := h.2.2.1; rwa [List.append_nil] at this⟩
end Go.Proofs.YtlldamgnfaikhaaDoor
