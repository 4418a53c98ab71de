/- Rows plainly: which values are a row of a table, their key, their bytes; what is laid is read. No program is walked in it. -/
import Derived.Test.YtlldamgnfaikhaaDoorKRead
import Derived.Test.YtlldamgnfaikhaaDoorOFst
import Derived.Test.YtlldamgnfaikhaaDoorOV2
namespace Go.Proofs.YtlldamgnfaikhaaDoor
open Go.Lib

/-- A column. -/
structure Col where
  nm : ByteArray
  k : Int
  key : Bool
  nul : Bool
/-- What is wrong with a value in a column, by its number. -/
def fitN (c : Col) (v : Val) : Int := if validN v ≠ 0 then validN v else if v.k ≠ 0 ∧ v.k ≠ c.k then 7 else if v.k = 0 ∧ (c.key = true ∨ c.nul = false) then 33 else 0
def chkZ : List Col → List Val → Int
  | c :: cs, v :: vs => if fitN c v ≠ 0 then fitN c v else chkZ cs vs
  | _, _ => 0
def chkR (cs : List Col) (vs : List Val) : Int := if vs.length ≠ cs.length then 1 else chkZ cs vs
theorem chkZ_at : ∀ (i : Nat) (cs : List Col) (vs : List Val), (∀ j (h : j < cs.length) (h' : j < vs.length), j < i → fitN cs[j] vs[j] = 0) → chkZ cs vs = chkZ (cs.drop i) (vs.drop i)
  | 0, _, _, _ => rfl
  | i + 1, [], vs, _ => by simp [chkZ]
  | i + 1, c :: cs, [], _ => by rw [List.drop_nil]; cases (c :: cs).drop (i + 1) <;> simp [chkZ]
  | i + 1, c :: cs, v :: vs, h => by
    have h0 : fitN c v = 0 := h 0 (by simp) (by simp) (by omega)
    rw [chkZ, h0, if_neg (by simp), List.drop_succ_cons, List.drop_succ_cons]
    exact chkZ_at i cs vs fun j hj hj' hji => h (j + 1) (by simp; omega) (by simp; omega) (by omega)
theorem chkR_bad {cs : List Col} {vs : List Val} (hl : vs.length = cs.length) {i : Nat} (hi : i < cs.length) (hi' : i < vs.length) (h : ∀ j (h : j < cs.length) (h' : j < vs.length), j < i → fitN cs[j] vs[j] = 0) {E : Int} (hE : fitN cs[i] vs[i] = E) (h0 : E ≠ 0) : chkR cs vs = E := by
  rw [chkR, if_neg (by simp [hl]), chkZ_at i cs vs h, List.drop_eq_getElem_cons hi, List.drop_eq_getElem_cons hi', chkZ, hE, if_pos h0]
theorem chkR_ok {cs : List Col} {vs : List Val} (hl : vs.length = cs.length) (h : ∀ j (h : j < cs.length) (h' : j < vs.length), fitN cs[j] vs[j] = 0) : chkR cs vs = 0 := by
  rw [chkR, if_neg (by simp [hl]), chkZ_at cs.length cs vs (fun j hj hj' _ => h j hj hj'), List.drop_length]; rfl
theorem chkZ_zero : ∀ (cs : List Col) (vs : List Val), chkZ cs vs = 0 → ∀ j (h : j < cs.length) (h' : j < vs.length), fitN cs[j] vs[j] = 0
  | [], _, _, j, h, _ => by simp at h
  | _ :: _, [], _, j, _, h' => by simp at h'
  | c :: cs, v :: vs, hz, j, h, h' => by
    rw [chkZ] at hz
    by_cases h0 : fitN c v = 0
    · rw [if_neg (by simp [h0])] at hz
      cases j with
      | zero => exact h0
      | succ j => exact chkZ_zero cs vs hz j (by simpa using h) (by simpa using h')
    · rw [if_pos h0] at hz; exact absurd hz h0
theorem chkR_zero {cs : List Col} {vs : List Val} (h : chkR cs vs = 0) : vs.length = cs.length ∧ chkZ cs vs = 0 := by
  unfold chkR at h
  split at h
  · simp at h
  · rename_i hl; exact ⟨by simpa using hl, h⟩
theorem fit_valid {c : Col} {v : Val} (h : fitN c v = 0) : validN v = 0 ∧ (v.k = 0 ∨ v.k = c.k) := by
  unfold fitN at h
  split at h
  · rename_i h0; exact absurd h h0
  · rename_i h0
    split at h
    · simp at h
    · rename_i h1
      refine ⟨by simpa using h0, ?_⟩
      by_cases hk : v.k = 0
      · exact .inl hk
      · exact .inr (Classical.byContradiction fun hn => h1 ⟨hk, hn⟩)
theorem chkR_valid {cs : List Col} {vs : List Val} (h : chkR cs vs = 0) : ∀ v ∈ vs, validN v = 0 := by
  obtain ⟨hl, hz⟩ := chkR_zero h
  intro v hv
  obtain ⟨j, hj, rfl⟩ := List.getElem_of_mem hv
  exact (fit_valid (chkZ_zero cs vs hz j (by omega) hj)).1
theorem fitN_range (c : Col) (v : Val) : fitN c v = 0 ∨ fitN c v = 3 ∨ fitN c v = 2 ∨ fitN c v = 7 ∨ fitN c v = 33 := by
  unfold fitN validN
  repeat' split
  all_goals simp_all

/-! ### The key -/
/-- The places of the key's columns among the first i. -/
def isKey (cs : List Col) (j : Nat) : Bool := (cs[j]?.map (·.key)).getD false
def keyT (cs : List Col) (i : Nat) : List Nat := (List.range i).filter (isKey cs)
def keyI (cs : List Col) : List Nat := keyT cs cs.length
theorem isKey_at {cs : List Col} {i : Nat} (h : i < cs.length) : isKey cs i = cs[i].key := by simp [isKey, List.getElem?_eq_getElem h]
theorem keyT_succ (cs : List Col) (i : Nat) : keyT cs (i + 1) = keyT cs i ++ if isKey cs i = true then [i] else [] := by
  unfold keyT
  rw [List.range_succ, List.filter_append]
  congr 1
  by_cases h : isKey cs i = true <;> simp [h]
theorem keyT_lt {cs : List Col} {i p : Nat} (h : p ∈ keyT cs i) : p < i := by
  unfold keyT at h
  exact List.mem_range.1 (List.mem_filter.1 h).1
theorem keyT_len (cs : List Col) (i : Nat) : (keyT cs i).length ≤ i := by
  unfold keyT
  exact Nat.le_trans (List.length_filter_le _ _) (by simp)
def vZ : Val := ⟨0, 0, ⟨#[]⟩, false⟩
/-- The values of the key's columns. -/
def pickV (vs : List Val) (ps : List Nat) : List Val := ps.map fun p => vs.getD p vZ
def keyV (cs : List Col) (vs : List Val) : List Val := pickV vs (keyI cs)
theorem getD_at {vs : List Val} {p : Nat} (h : p < vs.length) : vs.getD p vZ = vs[p] := by simp [List.getD_eq_getElem?_getD, List.getElem?_eq_getElem h]
theorem keyV_mem {cs : List Col} {vs : List Val} (hl : vs.length = cs.length) {v : Val} (h : v ∈ keyV cs vs) : v ∈ vs := by
  obtain ⟨p, hp, rfl⟩ := List.mem_map.1 h
  have hlt := keyT_lt hp
  rw [getD_at (by omega)]
  exact List.getElem_mem _
theorem keyV_eq {cs : List Col} {a b : List Val} (ha : a.length = cs.length) (hb : b.length = cs.length) : keyV cs a = keyV cs b ↔ ∀ j (h : j < cs.length) (h1 : j < a.length) (h2 : j < b.length), cs[j].key = true → a[j] = b[j] := by
  unfold keyV pickV
  rw [List.map_inj_left]
  constructor
  · intro h j hj h1 h2 hk
    have := h j (List.mem_filter.2 ⟨List.mem_range.2 hj, by rw [isKey_at hj]; exact hk⟩)
    rwa [getD_at h1, getD_at h2] at this
  · intro h p hp
    have hlt := keyT_lt hp
    rw [getD_at (by omega), getD_at (by omega)]
    refine h p hlt (by omega) (by omega) ?_
    rw [← isKey_at hlt]
    exact (List.mem_filter.1 hp).2

/-! ### The bytes -/
def layV (v : Val) : List Nat := if v.k = 0 then [0] else 1 :: (if v.k = 1 then enc (zz v.n) else if v.k = 2 then enc v.t.size ++ sb v.t else [if v.b = true then 1 else 0])
def rowB (vs : List Val) : List Nat := vs.flatMap layV
theorem rowB_nil : rowB [] = [] := rfl
theorem rowB_cons (v : Val) (vs : List Val) : rowB (v :: vs) = layV v ++ rowB vs := by simp [rowB]
theorem rowB_take {vs : List Val} {i : Nat} (hi : i < vs.length) : rowB (vs.take (i + 1)) = rowB (vs.take i) ++ layV vs[i] := by
  rw [List.take_add_one, List.getElem?_eq_getElem hi]
  unfold rowB
  rw [List.flatMap_append]
  simp
/-- How much there is of values. -/
def wtV : List Val → Nat
  | [] => 0
  | v :: vs => v.t.size + 5 + wtV vs
theorem layV_len {v : Val} (hn : inI v.n) (ht : v.t.size ≤ 1048576) : (layV v).length ≤ 11 + v.t.size := by
  have h1 := enc_le10 (zz v.n) (zz_lt v.n hn.1 hn.2)
  have h2 := enc_le10 v.t.size (by omega)
  unfold layV
  repeat' split
  all_goals simp [sb_length]
  all_goals omega
theorem wtV_len : ∀ vs, vs.length ≤ wtV vs
  | [] => Nat.le_refl _
  | v :: vs => by have := wtV_len vs; simp only [wtV, List.length_cons]; omega
theorem wtV_mem : ∀ {vs : List Val} {v : Val}, v ∈ vs → v.t.size ≤ wtV vs
  | v' :: vs, v, h => by
    simp only [wtV]
    rcases List.mem_cons.1 h with rfl | h
    · omega
    · have := wtV_mem h; omega
theorem rowB_len : ∀ (vs : List Val) (n : Nat), (∀ v ∈ vs, inI v.n) → n ≤ 1048576 → wtV vs ≤ n → (rowB vs).length ≤ 3 * wtV vs
  | [], _, _, _, _ => by simp [rowB]
  | v :: vs, n, hn, h1, h2 => by
    simp only [wtV] at h2 ⊢
    have := rowB_len vs n (fun x hx => hn x (List.mem_cons_of_mem _ hx)) h1 (by omega)
    have := layV_len (hn v List.mem_cons_self) (by omega)
    rw [rowB_cons, List.length_append]
    omega
theorem wtV_take : ∀ (vs : List Val) (i : Nat), wtV (vs.take i) ≤ wtV vs
  | [], i => by simp
  | v :: vs, 0 => by simp [wtV]
  | v :: vs, i + 1 => by have := wtV_take vs i; simp only [List.take_succ_cons, wtV]; omega
theorem rowB_lim {vs : List Val} (hn : ∀ v ∈ vs, inI v.n) (hw : wtV vs ≤ 1048576) (i : Nat) : (rowB (vs.take i)).length ≤ 3145728 := by
  have h1 := wtV_take vs i
  have := rowB_len (vs.take i) 1048576 (fun v hv => hn v (List.mem_of_mem_take hv)) (Nat.le_refl _) (by omega)
  omega
theorem layV_byte (v : Val) : ∀ x ∈ layV v, x < 256 := by
  unfold layV
  repeat' split
  all_goals intro x hx
  all_goals simp only [List.mem_cons, List.mem_append, List.not_mem_nil, or_false] at hx
  · omega
  · rcases hx with rfl | hx
    · omega
    · exact enc_byte _ x hx
  · rcases hx with rfl | hx | hx
    · omega
    · exact enc_byte _ x hx
    · exact sb_byte _ x hx
  · rcases hx with rfl | rfl <;> omega
  · rcases hx with rfl | rfl <;> omega
theorem rowB_byte (vs : List Val) : ∀ x ∈ rowB vs, x < 256 := by
  intro x hx
  obtain ⟨v, _, h⟩ := List.mem_flatMap.1 hx
  exact layV_byte v x h

/-! ### What is read -/
def someR (k : Int) (xs : List Nat) : Val × Nat × Bool :=
  if k = 1 then (⟨1, (rdI xs).1, ⟨#[]⟩, false⟩, (rdI xs).2.1, decide ((rdI xs).2.2 = 0))
  else if k = 2 then (⟨2, 0, bs (rdT xs 4096).1, false⟩, (rdT xs 4096).2.1, decide ((rdT xs 4096).2.2 = 0))
  else if k = 3 ∧ 0 < xs.length ∧ xs.getD 0 0 ≤ 1 then (⟨3, 0, ⟨#[]⟩, xs.getD 0 0 == 1⟩, 1, true) else (vZ, 0, false)
def firstR (k : Int) (xs : List Nat) : Val × Nat × Bool :=
  if xs.length = 0 ∨ 1 < xs.getD 0 0 then (vZ, 0, false) else if xs.getD 0 0 = 0 then (vZ, 1, true) else ((someR k (xs.drop 1)).1, 1 + (someR k (xs.drop 1)).2.1, (someR k (xs.drop 1)).2.2)
theorem fit_cases {v : Val} (h : validN v = 0) : v = vZ ∨ (∃ n, v = ⟨1, n, ⟨#[]⟩, false⟩) ∨ (∃ t, v = ⟨2, 0, t, false⟩ ∧ t.size ≤ 4096) ∨ ∃ b, v = ⟨3, 0, ⟨#[]⟩, b⟩ := by
  unfold validN at h
  split at h
  · simp at h
  · rename_i hf
    split at h
    · simp at h
    · rename_i hs
      obtain ⟨k, n, t, b⟩ := v
      simp only [fit] at hf
      simp only [Bool.not_eq_false, Bool.or_eq_true, Bool.and_eq_true, beq_iff_eq, Bool.not_eq_true'] at hf
      rcases hf with ((⟨⟨⟨rfl, rfl⟩, h3⟩, rfl⟩ | ⟨⟨rfl, h3⟩, rfl⟩) | ⟨⟨rfl, rfl⟩, rfl⟩) | ⟨⟨rfl, rfl⟩, h3⟩
      · exact .inl (by rw [ba_empty h3]; rfl)
      · exact .inr (.inl ⟨n, by rw [ba_empty h3]⟩)
      · exact .inr (.inr (.inl ⟨t, rfl, by simpa using hs⟩))
      · exact .inr (.inr (.inr ⟨b, by rw [ba_empty h3]⟩))
theorem first_lay {v : Val} {k : Int} (h : validN v = 0) (hn : inI v.n) (hk : v.k = 0 ∨ v.k = k) (r : List Nat) : firstR k (layV v ++ r) = (v, (layV v).length, true) := by
  rcases fit_cases h with rfl | ⟨n, rfl⟩ | ⟨t, rfl, ht⟩ | ⟨b, rfl⟩
  · simp [layV, firstR, vZ]
  · obtain rfl : (1 : Int) = k := by rcases hk with h | h; · simp at h
                                     · exact h
    have e : layV ⟨1, n, ⟨#[]⟩, false⟩ = 1 :: enc (zz n) := by simp [layV]
    have hr := rdU_enc (zz n) r (zz_lt n hn.1 hn.2)
    rw [e]
    simp only [firstR, List.cons_append, List.length_cons, List.getD_cons_zero, List.drop_succ_cons, List.drop_zero]
    rw [if_neg (by simp), if_neg (by simp)]
    simp only [someR, if_pos, rdI, hr, unzz_zz]
    simp [Nat.add_comm]
  · obtain rfl : (2 : Int) = k := by rcases hk with h | h; · simp at h
                                     · exact h
    have e : layV ⟨2, 0, t, false⟩ = 1 :: (enc t.size ++ sb t) := by simp [layV]
    have hr := rdU_enc t.size (sb t ++ r) (by omega)
    rw [e]
    simp only [firstR, List.cons_append, List.length_cons, List.getD_cons_zero, List.drop_succ_cons, List.drop_zero]
    rw [if_neg (by simp), if_neg (by simp)]
    have hT : rdT (enc t.size ++ sb t ++ r) 4096 = (sb t, (enc t.size).length + t.size, 0) := by
      rw [List.append_assoc]
      unfold rdT
      simp only [hr]
      rw [if_neg (by decide), if_neg (by simp), if_neg (by omega), if_neg (by simp [sb_length])]
      simp [← sb_length]
    rw [someR, if_neg (by decide), if_pos rfl, hT]
    simp [bs_sb, sb_length, Nat.add_comm]
  · obtain rfl : (3 : Int) = k := by rcases hk with h | h; · simp at h
                                     · exact h
    cases b <;> simp [layV, firstR, someR]
theorem lay_inj {v v' : Val} {k : Int} (h : validN v = 0) (h' : validN v' = 0) (hn : inI v.n) (hn' : inI v'.n) (hk : v.k = 0 ∨ v.k = k) (hk' : v'.k = 0 ∨ v'.k = k) {r r' : List Nat} (e : layV v ++ r = layV v' ++ r') : v = v' ∧ r = r' := by
  have h1 := first_lay h hn hk r
  have h2 := first_lay h' hn' hk' r'
  rw [e, h2] at h1
  simp only [Prod.mk.injEq] at h1
  obtain ⟨rfl, _, _⟩ := h1
  exact ⟨rfl, List.append_cancel_left e⟩
theorem row_inj : ∀ (cs : List Col) (a b : List Val), a.length = cs.length → b.length = cs.length → chkZ cs a = 0 → chkZ cs b = 0 → (∀ v ∈ a, inI v.n) → (∀ v ∈ b, inI v.n) → rowB a = rowB b → a = b
  | [], a, b, ha, hb, _, _, _, _, _ => by
    rw [List.eq_nil_of_length_eq_zero ha, List.eq_nil_of_length_eq_zero hb]
  | c :: cs, [], _, ha, _, _, _, _, _, _ => by simp at ha
  | c :: cs, _ :: _, [], _, hb, _, _, _, _, _ => by simp at hb
  | c :: cs, v :: a, v' :: b, ha, hb, hca, hcb, hna, hnb, e => by
    have f1 := fit_valid (chkZ_zero _ _ hca 0 (by simp) (by simp))
    have f2 := fit_valid (chkZ_zero _ _ hcb 0 (by simp) (by simp))
    simp only [List.getElem_cons_zero] at f1 f2
    have z1 := chkZ_zero _ _ hca 0 (by simp) (by simp)
    have z2 := chkZ_zero _ _ hcb 0 (by simp) (by simp)
    simp only [List.getElem_cons_zero] at z1 z2
    rw [chkZ, z1, if_neg (by simp)] at hca
    rw [chkZ, z2, if_neg (by simp)] at hcb
    rw [rowB_cons, rowB_cons] at e
    obtain ⟨rfl, e2⟩ := lay_inj f1.1 f2.1 (hna v List.mem_cons_self) (hnb v' List.mem_cons_self) f1.2 f2.2 e
    rw [row_inj cs a b (by simpa using ha) (by simpa using hb) hca hcb (fun x hx => hna x (List.mem_cons_of_mem _ hx)) (fun x hx => hnb x (List.mem_cons_of_mem _ hx)) e2]
theorem bs_inj {x y : List Nat} (hx : ∀ c ∈ x, c < 256) (hy : ∀ c ∈ y, c < 256) (h : bs x = bs y) : x = y := by
  have e : (x.map fun n => UInt8.ofNat n) = y.map fun n => UInt8.ofNat n := by
    unfold bs at h
    simpa using h
  have back : ∀ l : List Nat, (∀ c ∈ l, c < 256) → (l.map fun n => UInt8.ofNat n).map UInt8.toNat = l := by
    intro l hl
    rw [List.map_map]
    conv => rhs; rw [← List.map_id l]
    refine List.map_congr_left fun c hc => ?_
    have := hl c hc
    simp [UInt8.toNat_ofNat']
    omega
  rw [← back x hx, ← back y hy, e]
end Go.Proofs.YtlldamgnfaikhaaDoor
