/- Plain facts for TreeShape: rows of counts. -/
import Derived.Test.YtlpkpookheafpaaVNod
namespace Go.Proofs.Ytlpkpookheafpaa
open Go.Lib

/-- Rows of nodes by their counts of keys: w nodes in the first, each with at least m; in all behind it at least three. -/
def Shp : Nat → Nat → List (List Nat) → Prop
  | _, _, [] => True
  | w, m, r :: rs => r.length = w ∧ (∀ c ∈ r, m ≤ c ∧ c ≤ 7) ∧ Shp (r.sum + r.length) 3 rs
def tot (rs : List (List Nat)) : Nat := (rs.map List.sum).sum
theorem tot_cons (r : List Nat) (rs : List (List Nat)) : tot (r :: rs) = r.sum + tot rs := by simp [tot]
theorem sum_ge {m : Nat} : ∀ {r : List Nat}, (∀ c ∈ r, m ≤ c ∧ c ≤ 7) → r.length * m ≤ r.sum
  | [], _ => by simp
  | c :: r, h => by
    have := sum_ge (r := r) fun x hx => h x (List.mem_cons_of_mem _ hx)
    have := (h c List.mem_cons_self).1
    rw [List.length_cons, List.sum_cons, Nat.add_mul]
    omega
theorem shp_grow : ∀ {rs : List (List Nat)} {w : Nat}, Shp w 3 rs → w * 4 ^ rs.length ≤ w + tot rs
  | [], w, _ => by simp [tot]
  | r :: rs, w, ⟨h1, h2, h3⟩ => by
    have ih := shp_grow h3
    have hs := sum_ge h2
    rw [h1] at hs ih
    rw [tot_cons, List.length_cons, Nat.pow_succ]
    have : w * 4 * 4 ^ rs.length ≤ (r.sum + w) * 4 ^ rs.length := Nat.mul_le_mul_right _ (by omega)
    have e : w * (4 ^ rs.length * 4) = w * 4 * 4 ^ rs.length := by rw [Nat.mul_assoc, Nat.mul_comm 4]
    rw [e]
    omega
/-- The rows are few. -/
theorem shp_few {r : List Nat} {rs : List (List Nat)} (h : Shp 1 1 (r :: rs)) : 4 ^ rs.length ≤ (tot (r :: rs) + 1) / 2 := by
  obtain ⟨h1, h2, h3⟩ := h
  have hs := sum_ge h2
  have := shp_grow h3
  rw [h1] at this hs
  have h4 : 2 * 4 ^ rs.length ≤ (r.sum + 1) * 4 ^ rs.length := Nat.mul_le_mul_right _ (by omega)
  rw [tot_cons]
  omega
theorem shp_most {r : List Nat} {rs : List (List Nat)} (h : Shp 1 1 (r :: rs)) {k : Nat} (hk : (tot (r :: rs) + 1) / 2 / 4 ^ k = 0) : rs.length < k := by
  have h1 := shp_few h
  have h2 : (tot (r :: rs) + 1) / 2 < 4 ^ k := by
    rcases Nat.lt_or_ge ((tot (r :: rs) + 1) / 2) (4 ^ k) with g | g
    · exact g
    · have := Nat.div_pos g (Nat.pow_pos (by omega))
      omega
  exact (Nat.pow_lt_pow_iff_right (by omega)).1 (Nat.lt_of_le_of_lt h1 h2)
/-- A node's count, its children. -/
def cnt (M : Nat → Option Nd) (k : Nat) : Nat := ((M k).map fun n => n.its.length).getD 0
def kidsOf (M : Nat → Option Nd) (k : Nat) : List Nat := ((M k).map fun n => n.ks).getD []
def lens (ls : List (List It)) : Nat := (ls.map List.length).sum
theorem lens_append (a b : List (List It)) : lens (a ++ b) = lens a + lens b := by simp [lens]
theorem lens_cons (a : List It) (b : List (List It)) : lens (a :: b) = a.length + lens b := by simp [lens]
theorem weave_len : ∀ (I : List It) (L : List (List It)), (weave I L).length = I.length + lens L
  | [], L => by simp [weave, lens, List.length_flatten]
  | x :: I, [] => by rw [weave_nil]; simp [lens]
  | x :: I, l :: L => by
    have := weave_len I L
    rw [weave, List.length_append, List.length_cons, this, lens_cons, List.length_cons]
    omega
/-- What lies in the next row. -/
theorem Kids.next {M : Nat → Option Nd} {h m : Nat} : ∀ {ks : List Nat} {ls : List (List It)} {F : Nat → Prop}, Kids (Nod M (h + 1) m 7) ks ls F →
    ∃ ls' F', Kids (Nod M h 3 7) (ks.flatMap (kidsOf M)) ls' F' ∧ (∀ x, F' x → F x) ∧ lens ls = (ks.map (cnt M)).sum + lens ls' ∧ (∀ k ∈ ks, ∃ n, M k = some n ∧ m ≤ n.its.length ∧ n.its.length ≤ 7 ∧ (h = 0 → n.ks = []) ∧ (h ≠ 0 → n.ks.length = n.its.length + 1))
  | [], [], F, hK => ⟨[], F, hK, fun _ h => h, rfl, fun k hk => by cases hk⟩
  | [], _ :: _, _, hK => hK.elim
  | _ :: _, [], _, hK => hK.elim
  | k :: ks, l :: ls, F, ⟨Fk, Fr, g1, g2, g3, g4⟩ => by
    obtain ⟨ls', F', r1, r2, r4, r3⟩ := Kids.next g2
    obtain ⟨n, lsn, Fn, b0, b1, b2, b3, b4, b5, b6, b7, b8⟩ := g1
    have hk : kidsOf M k = n.ks := by simp [kidsOf, b0]
    refine ⟨lsn ++ ls', fun x => Fn x ∨ F' x, ?_, fun x hx => ?_, ?_, fun y hy => ?_⟩
    · rw [List.flatMap_cons, hk]
      exact b5.append r1 fun x hx g => g3 x ((b8 x).2 (.inr hx)) (r2 x g)
    · exact (g4 x).2 (hx.imp (fun g => (b8 x).2 (.inr g)) (r2 x))
    · have hc : cnt M k = n.its.length := by simp [cnt, b0]
      rw [lens_cons, b6, weave_len, lens_append, List.map_cons, List.sum_cons, hc, r4]
      omega
    · rcases List.mem_cons.1 hy with rfl | hy
      · exact ⟨n, b0, b1, b2, b3, b4⟩
      · exact r3 y hy
/-- The rows below a row. -/
def rowsOf (M : Nat → Option Nd) : Nat → List Nat → List (List Nat)
  | 0, _ => []
  | h + 1, ks => ks.map (cnt M) :: rowsOf M h (ks.flatMap (kidsOf M))
theorem kids_len {M : Nat → Option Nd} : ∀ {ks : List Nat}, (∀ k ∈ ks, (kidsOf M k).length = cnt M k + 1) → (ks.flatMap (kidsOf M)).length = (ks.map (cnt M)).sum + (ks.map (cnt M)).length
  | [], _ => rfl
  | k :: ks, h => by
    have ih := kids_len (ks := ks) fun x hx => h x (List.mem_cons_of_mem _ hx)
    have := h k List.mem_cons_self
    rw [List.flatMap_cons, List.length_append, ih, this, List.map_cons, List.sum_cons, List.length_cons]
    omega
theorem rows_shp {M : Nat → Option Nd} : ∀ {h m : Nat} {ks : List Nat} {ls : List (List It)} {F : Nat → Prop}, Kids (Nod M h m 7) ks ls F → Shp ks.length m (rowsOf M h ks)
  | 0, _, _, _, _, _ => trivial
  | h + 1, m, ks, ls, F, hK => by
    obtain ⟨ls', F', r1, r2, _, r3⟩ := hK.next
    refine ⟨by simp, fun c hc => ?_, ?_⟩
    · obtain ⟨k, hk, rfl⟩ := List.mem_map.1 hc
      obtain ⟨n, e, g1, g2, _⟩ := r3 k hk
      simp only [cnt, e]
      exact ⟨g1, g2⟩
    · by_cases hz : h = 0
      · subst hz; trivial
      · have := rows_shp r1
        rw [kids_len fun k hk => ?_] at this
        · exact this
        · obtain ⟨n, e, _, _, _, g3⟩ := r3 k hk
          simp only [kidsOf, cnt, e]
          exact g3 hz
theorem rows_tot {M : Nat → Option Nd} : ∀ {h m : Nat} {ks : List Nat} {ls : List (List It)} {F : Nat → Prop}, Kids (Nod M h m 7) ks ls F → tot (rowsOf M h ks) = lens ls
  | 0, _, [], [], _, _ => rfl
  | 0, _, [], _ :: _, _, hK => hK.elim
  | 0, _, _ :: _, [], _, hK => hK.elim
  | 0, _, _ :: _, _ :: _, _, ⟨_, _, g, _⟩ => g.elim
  | h + 1, m, ks, ls, F, hK => by
    obtain ⟨ls', F', r1, _, r4, _⟩ := hK.next
    rw [rowsOf, tot_cons, rows_tot r1, r4]
/-- The rows of a tree. -/
theorem rows_of {M : Nat → Option Nd} {h q : Nat} {l : List It} {F : Nat → Prop} (hN : Nod M (h + 1) 1 7 q l F) : Shp 1 1 (rowsOf M (h + 1) [q]) ∧ tot (rowsOf M (h + 1) [q]) = l.length :=
  ⟨rows_shp (kids_one hN), by rw [rows_tot (kids_one hN), lens_cons]; rfl⟩
end Go.Proofs.Ytlpkpookheafpaa
