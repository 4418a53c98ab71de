/- What RowBack's walk asks for: Encode's row is read as it; two rows of values grow beside each other; keys as texts are ordered as they are. -/
import Derived.Test.YtlldamgnfaikhaaDoorRwLaw
import Derived.Test.YtlldamgnfaikhaaDoorRwDec
import Derived.Test.YtlldamgnfaikhaaDoorOCmp
namespace Go.Proofs.YtlldamgnfaikhaaDoor
open Go.RowKit Go.Sort

theorem Own.full {w : World} {base : Nat} {v : Value} {xs : List Nat} (h : Own w base v xs) : ∃ a c, v = .slice a xs.length c ∧ BytesIn w a xs ∧ xs.length ≤ c := by
  rcases h.2 with ⟨rfl, e⟩ | ⟨g, cap, cur, rfl, _, _, h3, _, _, _⟩
  · have : xs = [] := List.eq_nil_of_length_eq_zero e
    subst this
    exact ⟨none, 0, rfl, bytesIn_nil _ _, Nat.le_refl _⟩
  · obtain ⟨a, c', e, hb, _⟩ := h.bytes
    simp only [Value.slice.injEq] at e
    obtain ⟨rfl, _, rfl⟩ := e
    exact ⟨_, _, rfl, hb, h3⟩
/-- Encode's bytes, which may be read. -/
def EncOk (V : World) (xl : Nat) (XB : List Nat) (e : Ending) (w' : World) : Prop :=
  ∃ a1 c1, e = .returned (.tuple #[.slice a1 xl c1, .nilIface]) ∧ (BytesIn w' a1 XB ∧ xl ≤ c1) ∧ Below V.heap.size V w'
/-- A row that was read. -/
def DecOk (V : World) (L : Nat) (xs : List Val) (e : Ending) (w' : World) : Prop :=
  ∃ a2 c2, e = .returned (.tuple #[.slice a2 L c2, .nilIface]) ∧ ValsIn w' a2 xs ∧ Below V.heap.size V w'
theorem encOk {nm : ByteArray} {at_ : Option Addr} {ct : Nat} {cs : List Col} {a' : Option Addr} {c' : Nat} {xs : List Val} {W1 V : World} (hc : ColsIn W1 at_ cs) (hb : Below W1.heap.size W1 V) (h : ValsIn V a' xs) (hw : ∀ x ∈ xs, inI x.n) (hcl : cs.length ≤ 1048576) (hwt : wtV xs ≤ 1048576) (h0 : chkR cs xs = 0) :
    Calls Tryd.prog 6 #[.agg #[.string nm, .slice at_ cs.length ct], .slice a' xs.length c'] V (EncOk V (rowB xs).length (rowB xs)) :=
  (rencode_ nm at_ ct cs a' c' xs V (hc.on hb) h hw hcl hwt).mono fun e w' ⟨v, he, ho, hb⟩ => by
    rw [if_pos h0] at ho
    obtain ⟨a1, c1, rfl, hin, hcp⟩ := ho.full
    rw [errV, if_pos h0] at he
    exact ⟨a1, c1, he, ⟨hin, hcp⟩, hb⟩
theorem decOk {nm : ByteArray} {at_ : Option Addr} {ct : Nat} {cs : List Col} {a1 : Option Addr} {c1 : Nat} {xs : List Val} {W1 V : World} (hc : ColsIn W1 at_ cs) (hb : Below W1.heap.size W1 V) (h : BytesIn V a1 (rowB xs)) (hw : ∀ x ∈ xs, inI x.n) (hcl : cs.length ≤ 1048576) (hwt : wtV xs ≤ 1048576) (h0 : chkR cs xs = 0) (hcp : (rowB xs).length ≤ c1) :
    Calls Tryd.prog 9 #[.agg #[.string nm, .slice at_ cs.length ct], .slice a1 (rowB xs).length c1] V (DecOk V xs.length xs) := by
  have hlen : (rowB xs).length ≤ 3145728 := by
    have := rowB_lim hw hwt xs.length
    rwa [List.take_length] at this
  have hR : IsRow cs (rowB xs) xs := ⟨h0, hw, rfl⟩
  refine (rdecode_ nm at_ ct cs a1 c1 (rowB xs) V (hc.on hb) h (rowB_byte xs) hcl (by omega) hcp).mono ?_
  rintro e w' ⟨⟨l, a2, c2, hl, he, hi⟩ | ⟨hno, _⟩, hb⟩
  · obtain rfl := isRow_one hl hR
    exact ⟨a2, c2, he, hi, hb⟩
  · exact absurd hR (hno _)
theorem pick_key {cs : List Col} {vs : List Val} {i : Nat} (hi : i < cs.length) (hv : i < vs.length) (hk : cs[i].key = true) : pickV vs (keyT cs (i + 1)) = pickV vs (keyT cs i) ++ [vs[i]] := by
  rw [keyT_succ, if_pos (by rw [isKey_at hi]; exact hk)]
  unfold pickV
  rw [List.map_append]
  simp only [List.map_cons, List.map_nil]
  rw [getD_at hv]
theorem pick_skip {cs : List Col} {vs : List Val} {i : Nat} (hi : i < cs.length) (hk : cs[i].key = false) : pickV vs (keyT cs (i + 1)) = pickV vs (keyT cs i) := by
  rw [keyT_succ, if_neg (by rw [isKey_at hi, hk]; simp), List.append_nil]
theorem pick_len (cs : List Col) (vs : List Val) (i : Nat) : (pickV vs (keyT cs i)).length ≤ i := by
  unfold pickV
  rw [List.length_map]
  exact keyT_len cs i
/-- Two rows that lie apart. -/
def Far (p q : Value) : Prop := ∀ k, q.ownBlock = some k → p.ownBlock ≠ some k
theorem keys_order {cs : List Col} {xs ys : List Val} (hx : kErr cs xs = 0) (hy : kErr cs ys = 0) (hnx : ∀ v ∈ xs, inI v.n) (hny : ∀ v ∈ ys, inI v.n) : cmpT (⟨(kTxt cs xs).toArray⟩ : ByteArray).toList (⟨(kTxt cs ys).toArray⟩ : ByteArray).toList = cmpL (keyV cs xs) (keyV cs ys) := by
  have z : ∀ zs : List Val, kErr cs zs = 0 → chkR cs zs = 0 ∧ errL (keyV cs zs) = 0 := by
    intro zs h
    unfold kErr at h
    split at h
    · rename_i h0; exact absurd h h0
    · rename_i h0; exact ⟨by simpa using h0, h⟩
  obtain ⟨x0, x1⟩ := z xs hx
  obtain ⟨y0, y1⟩ := z ys hy
  have lx := (chkR_zero x0).1
  have ly := (chkR_zero y0).1
  rw [kTxt, kTxt, if_neg (by simp [x0]), if_neg (by simp [y0]), txtL, txtL, if_pos x1, if_pos y1, size_of_toArray, size_of_toArray]
  exact enc_keeps _ _ (fun v hv => ⟨chkR_valid x0 v (keyV_mem lx hv), hnx v (keyV_mem lx hv)⟩) (fun v hv => ⟨chkR_valid y0 v (keyV_mem ly hv), hny v (keyV_mem ly hv)⟩)
theorem kErr_chk {cs : List Col} {vs : List Val} (h : kErr cs vs = 0) : chkR cs vs = 0 := by
  unfold kErr at h
  split at h
  · rename_i h0; exact absurd h h0
  · rename_i h0; simpa using h0
end Go.Proofs.YtlldamgnfaikhaaDoor
