/- Rows read plainly, the document's way: what bytes can be, held against what they are laid again. No program is walked in it. -/
import Derived.Test.YtlldamgnfaikhaaDoorRwRead
namespace Go.Proofs.YtlldamgnfaikhaaDoor
open Go.Lib

/-- What stands at the begin of bytes, for a column of a kind, and how many bytes it takes. -/
def rdOne (k : Int) (ys : List Nat) : Val × Nat :=
  if ys.getD 0 0 = 1 then
    if k = 1 then (⟨1, (rdI (ys.drop 1)).1, ⟨#[]⟩, false⟩, 1 + (rdI (ys.drop 1)).2.1)
    else if k = 2 then (⟨2, 0, bs (rdT (ys.drop 1) 4096).1, false⟩, 1 + (rdT (ys.drop 1) 4096).2.1)
    else if k = 3 then (⟨3, 0, ⟨#[]⟩, decide (0 < (ys.drop 1).length ∧ (ys.drop 1).getD 0 0 = 1)⟩, 2)
    else (⟨k, 0, ⟨#[]⟩, false⟩, 1)
  else (vZ, 1)
theorem rdOne_lay {v : Val} {k : Int} (h : validN v = 0) (hn : inI v.n) (hk : v.k = 0 ∨ v.k = k) (r : List Nat) : rdOne k (layV v ++ r) = (v, (layV v).length) := by
  rcases fit_cases h with rfl | ⟨n, rfl⟩ | ⟨t, rfl, ht⟩ | ⟨b, rfl⟩
  · simp [layV, rdOne, vZ]
  · obtain rfl : (1 : Int) = k := by rcases hk with h | h; · simp at h
                                     · exact h
    have e : layV ⟨1, n, ⟨#[]⟩, false⟩ = 1 :: enc (zz n) := by simp [layV]
    have hr := rdU_enc (zz n) r (zz_lt n hn.1 hn.2)
    rw [e]
    simp only [rdOne, List.cons_append, List.getD_cons_zero, List.drop_succ_cons, List.drop_zero]
    rw [if_pos trivial, if_pos trivial]
    simp only [rdI, hr, unzz_zz, List.length_cons]
    rw [Nat.add_comm]
  · obtain rfl : (2 : Int) = k := by rcases hk with h | h; · simp at h
                                     · exact h
    have e : layV ⟨2, 0, t, false⟩ = 1 :: (enc t.size ++ sb t) := by simp [layV]
    have hr := rdU_enc t.size (sb t ++ r) (by omega)
    rw [e]
    simp only [rdOne, List.cons_append, List.getD_cons_zero, List.drop_succ_cons, List.drop_zero]
    rw [if_pos trivial, if_neg (by decide), if_pos trivial]
    have hT : rdT (enc t.size ++ sb t ++ r) 4096 = (sb t, (enc t.size).length + t.size, 0) := by
      rw [List.append_assoc]
      unfold rdT
      simp only [hr]
      rw [if_neg (by decide), if_neg (by simp), if_neg (by omega), if_neg (by simp [sb_length])]
      simp [← sb_length]
    rw [hT]
    simp [bs_sb, sb_length, Nat.add_comm]
  · obtain rfl : (3 : Int) = k := by rcases hk with h | h; · simp at h
                                     · exact h
    cases b <;> simp [layV, rdOne]
theorem rdT_le (xs : List Nat) (hb : ∀ x ∈ xs, x < 256) : (rdT xs 4096).2.1 ≤ xs.length := by
  have h := (rdU_lt xs hb).2
  simp only [rdT]
  repeat' split
  all_goals simp only
  all_goals omega
theorem rdOne_in {k : Int} {ys : List Nat} (hb : ∀ x ∈ ys, x < 256) (hp : 0 < ys.length) : inI (rdOne k ys).1.n ∧ (rdOne k ys).2 ≤ ys.length + 1 := by
  have hb1 : ∀ x ∈ ys.drop 1, x < 256 := fun x hx => hb x (List.mem_of_mem_drop hx)
  have h1 := rdU_lt (ys.drop 1) hb1
  have h2 := rdT_le (ys.drop 1) hb1
  rw [List.length_drop] at h1 h2
  unfold rdOne
  split
  · split
    · exact ⟨unzz_in h1.1, by simp only [rdI]; omega⟩
    · split
      · exact ⟨by simp [inI], by simp only; omega⟩
      · split
        · exact ⟨by simp [inI], by simp only; omega⟩
        · exact ⟨by simp [inI], by simp only; omega⟩
  · exact ⟨by simp [inI, vZ], by simp only; omega⟩
/-- What the document's Decode has read. -/
def RefI (cs : List Col) (xs : List Nat) (i : Nat) (p : List Val) (q : Nat) : Prop :=
  p.length = i ∧ (∀ v ∈ p, inI v.n) ∧ ∀ l, IsRow cs xs l → l.take i = p ∧ q = (rowB p).length
theorem ref_start (cs : List Col) (xs : List Nat) : RefI cs xs 0 [] 0 := ⟨rfl, fun v hv => by simp at hv, fun l _ => ⟨rfl, rfl⟩⟩
theorem rowB_append (a b : List Val) : rowB (a ++ b) = rowB a ++ rowB b := by simp [rowB]
theorem layV_pos (v : Val) : 0 < (layV v).length := by
  unfold layV
  split <;> simp
theorem ref_at {cs : List Col} {xs : List Nat} {i : Nat} {p : List Val} {q : Nat} (h : RefI cs xs i p q) {l : List Val} (hl : IsRow cs xs l) : xs.drop q = rowB (l.drop i) ∧ xs.length = q + (rowB (l.drop i)).length := by
  obtain ⟨g1, g2⟩ := h.2.2 l hl
  have e : xs = rowB p ++ rowB (l.drop i) := by rw [hl.2.2, ← rowB_append, ← g1, List.take_append_drop]
  constructor
  · rw [e, g2, List.drop_left]
  · rw [e, List.length_append, g2]
theorem ref_next {cs : List Col} {xs : List Nat} {i : Nat} {p : List Val} {q : Nat} (hi : i < cs.length) (h : RefI cs xs i p q) (hb : ∀ x ∈ xs, x < 256) (hlt : q < xs.length) : RefI cs xs (i + 1) (p ++ [(rdOne cs[i].k (xs.drop q)).1]) (q + (rdOne cs[i].k (xs.drop q)).2) := by
  refine ⟨by simp [h.1], ?_, ?_⟩
  · intro x hx
    rcases List.mem_append.1 hx with hx | hx
    · exact h.2.1 x hx
    · rw [List.mem_singleton.1 hx]
      exact (rdOne_in (fun x hx => hb x (List.mem_of_mem_drop hx)) (by rw [List.length_drop]; omega)).1
  · intro l hl
    obtain ⟨g1, g2⟩ := h.2.2 l hl
    obtain ⟨e1, _⟩ := ref_at h hl
    obtain ⟨hll, e, z1, z2, z3⟩ := row_at hl hi
    rw [e1, e, rdOne_lay z1 z2 z3]
    constructor
    · rw [List.take_add_one, List.getElem?_eq_getElem hll, g1]; rfl
    · rw [rowB_append, List.length_append, g2]
      simp [rowB]
theorem ref_stop {cs : List Col} {xs : List Nat} {i : Nat} {p : List Val} {q : Nat} (h : RefI cs xs i p q) (hi : i ≤ cs.length) (hs : i < cs.length → xs.length ≤ q) (hz : chkR cs p ≠ 0 ∨ rowB p ≠ xs) : ∀ l, ¬ IsRow cs xs l := by
  intro l hl
  obtain ⟨g1, g2⟩ := h.2.2 l hl
  have hll := (chkR_zero hl.1).1
  rcases Nat.lt_or_ge i cs.length with hlt | hge
  · obtain ⟨_, e2⟩ := ref_at h hl
    obtain ⟨hl2, e, _⟩ := row_at hl hlt
    have := hs hlt
    have := layV_pos l[i]
    rw [e, List.length_append] at e2
    omega
  · have e : l = p := by rw [← g1, List.take_of_length_le (by omega)]
    rcases hz with hz | hz
    · exact hz (e ▸ hl.1)
    · exact hz (by rw [← e]; exact hl.2.2.symm)
theorem ref_ok {cs : List Col} {xs : List Nat} {i : Nat} {p : List Val} {q : Nat} (h : RefI cs xs i p q) (h0 : chkR cs p = 0) (he : rowB p = xs) : IsRow cs xs p := ⟨h0, h.2.1, he.symm⟩
end Go.Proofs.YtlldamgnfaikhaaDoor
