/- The document's Range. -/
import Derived.Test.YtagamkahfiackaaGreatDoorVnRNext
import Derived.Test.YtagamkahfiackaaGreatDoorJ2
namespace Go.Proofs.YtagamkahfiackaaGreatDoor
open Go.RowKit Go.Sort

attribute [local go_sem] Oper.semAt_some
theorem foldK_spec : ∀ (L : List RV), (L = [] ∧ foldK L = none) ∨ ∃ b, foldK L = some b ∧ (∃ x ∈ L, x.k = b) ∧ ∀ x ∈ L, ltb x.k b = false := by
  refine snoc_ind (.inl ⟨rfl, rfl⟩) fun L x ih => .inr ?_
  rw [foldK_snoc]
  rcases ih with ⟨rfl, e⟩ | ⟨b, e, ⟨y, hy, hyb⟩, hmin⟩
  · rw [e]
    exact ⟨x.k, rfl, ⟨x, by simp, rfl⟩, fun z hz => by simp at hz; subst hz; exact ltb_irrefl _⟩
  · rw [e]
    unfold stepK
    cases hl : ltb x.k b with
    | true =>
      refine ⟨x.k, by simp [hl], ⟨x, by simp, rfl⟩, fun z hz => ?_⟩
      rcases List.mem_append.1 hz with hz | hz
      · cases q : ltb z.k x.k with
        | false => rfl
        | true =>
          have h1 := ltb_trans q hl
          rw [hmin z hz] at h1; cases h1
      · rw [List.mem_singleton.1 hz]; exact ltb_irrefl _
    | false =>
      refine ⟨b, by simp [hl], ⟨y, by simp [hy], hyb⟩, fun z hz => ?_⟩
      rcases List.mem_append.1 hz with hz | hz
      · exact hmin z hz
      · rw [List.mem_singleton.1 hz]; exact hl
theorem sel_srtM {m : List Ct} (h : Srt m) (r : Rg) : Srt (selM r m) := List.Pairwise.filter _ h
theorem rel_key {R : List RV} {m : List Ct} (h : RelR R m) (hm : OkM m) (r : Rg) (k : ByteArray) : (∃ x ∈ R, x.k = k ∧ hasR r k = true) ↔ k ∈ (selM r m).map (·.1) := by
  unfold selM
  rw [List.mem_map]
  constructor
  · rintro ⟨x, hx, rfl, hh⟩
    have hv : x.v ∈ chM x.k m := by rw [h]; exact mem_ver.2 ⟨x, hx, rfl, rfl⟩
    unfold chM at hv
    cases e : get x.k m with
    | none => rw [e] at hv; cases hv
    | some c => exact ⟨(x.k, c), List.mem_filter.2 ⟨get_mem e, hh⟩, rfl⟩
  · rintro ⟨⟨q, c⟩, hq, rfl⟩
    obtain ⟨h1, h2⟩ := List.mem_filter.1 hq
    have e : chM q m = c := by unfold chM; rw [mem_get hm.srt h1]; rfl
    have hne := hm.ne _ h1
    cases c with
    | nil => exact absurd rfl hne
    | cons u c =>
      have hu : u ∈ verR q R := by rw [← h q, e]; simp
      obtain ⟨x, hx, hk, _⟩ := mem_ver.1 hu
      exact ⟨x, hx, hk, h2⟩
theorem nxt_find {R : List RV} {m : List Ct} (h : RelR R m) (hm : OkM m) (r : Rg) (key : ByteArray) (first : Bool) : nxtR r key first R = ((selM r m).map (·.1)).find? fun k => first || ltb key k := by
  unfold nxtR
  have hs := sel_srtM hm.srt r
  have hk := rel_key h hm r
  have hkeys : ((selM r m).map (·.1)).Pairwise fun a b => ltb a b = true := by rw [List.pairwise_map]; exact hs
  generalize (selM r m).map (·.1) = K at *
  rcases foldK_spec (R.filter (nxP r key first)) with ⟨e1, e2⟩ | ⟨b, e2, ⟨x, hx, rfl⟩, hmin⟩
  · rw [e2]
    symm
    rw [List.find?_eq_none]
    intro k hkK hc
    obtain ⟨x, hx, rfl, hh⟩ := (hk k).2 hkK
    have : x ∈ R.filter (nxP r key first) := List.mem_filter.2 ⟨hx, by unfold nxP; rw [hh, hc]; rfl⟩
    rw [e1] at this; cases this
  · rw [e2]
    obtain ⟨hx1, hx2⟩ := List.mem_filter.1 hx
    have hx3 : hasR r x.k = true ∧ (first || ltb key x.k) = true := by unfold nxP at hx2; simpa using hx2
    have hxK : x.k ∈ K := (hk _).1 ⟨x, hx1, rfl, hx3.1⟩
    symm
    cases hf : K.find? (fun k => first || ltb key k) with
    | none =>
      have := List.find?_eq_none.1 hf _ hxK
      exact absurd hx3.2 this
    | some b' =>
      have p1 := List.find?_some hf
      have p2 := List.mem_of_find?_eq_some hf
      obtain ⟨y, hy, rfl, hh⟩ := (hk b').2 p2
      have hle := hmin y (List.mem_filter.2 ⟨hy, by unfold nxP; rw [hh]; simpa using p1⟩)
      rw [List.find?_eq_some_iff_append] at hf
      obtain ⟨_, A, B, hAB, hA⟩ := hf
      congr 1
      refine ltb_total hle ?_
      rw [hAB] at hxK hkeys
      rcases List.mem_append.1 hxK with q | q
      · have := hA _ q
        rw [hx3.2] at this; cases this
      · rcases List.mem_cons.1 q with q | q
        · rw [q]; exact ltb_irrefl _
        · exact ltb_asymm ((List.pairwise_cons.1 (List.pairwise_append.1 hkeys).2.1).1 _ q)
theorem find_next {m : List Ct} (h : Srt m) {j : Nat} {x : Ct} (hx : m[j]? = some x) : (m.map (·.1)).find? (fun k => false || ltb x.1 k) = (m[j + 1]?).map (·.1) := by
  obtain ⟨h1, h2⟩ := List.getElem?_eq_some_iff.1 hx
  have e : m = m.take j ++ x :: m.drop (j + 1) := by rw [← h2, ← List.drop_eq_getElem_cons, List.take_append_drop]
  have hp : Srt (m.take j ++ x :: m.drop (j + 1)) := by rw [← e]; exact h
  obtain ⟨_, p2, p3⟩ := List.pairwise_append.1 hp
  have p4 := (List.pairwise_cons.1 p2).1
  conv => lhs; rw [e]
  rw [List.map_append, List.map_cons, List.find?_append, List.find?_eq_none.2, Option.none_or, List.find?_cons]
  · rw [show (false || ltb x.1 x.1) = false by rw [ltb_irrefl]; rfl]
    show List.find? _ _ = _
    cases hd : m.drop (j + 1) with
    | nil =>
      have : m[j + 1]? = none := by
        rw [List.getElem?_eq_none_iff]
        have := congrArg List.length hd
        rw [List.length_drop] at this
        simp at this; omega
      rw [this]; rfl
    | cons y D =>
      have e3 : m[j + 1]? = some y := by
        have : (m.drop (j + 1))[0]? = some y := by rw [hd]; rfl
        rw [List.getElem?_drop] at this
        simpa using this
      rw [e3]
      have := p4 y (by rw [hd]; simp)
      simp [this]
  · intro k hk
    obtain ⟨y, hy, rfl⟩ := List.mem_map.1 hk
    have := p3 y hy x (by simp)
    rw [ltb_asymm this]; simp
/-! ### Items of the document -/
abbrev P2 := ByteArray × ByteArray
def cP2 (l : List P2) : List Value := l.flatMap fun x => [.string x.1, .string x.2]
theorem cP2_append (a b : List P2) : cP2 (a ++ b) = cP2 a ++ cP2 b := by simp [cP2]
theorem cP2_one (l : List P2) : ∀ u ∈ cP2 l, u.oneCell' = true := by
  intro u hu
  obtain ⟨x, _, hx⟩ := List.mem_flatMap.1 hu
  simp only [List.mem_cons, List.not_mem_nil, or_false] at hx
  rcases hx with rfl | rfl <;> rfl
def RowP2 (w : World) (B : Nat) (v : Value) (l : List P2) : Prop := w.ownsRow B 76 2 v l.length (cP2 l)
theorem infoP2 : (Tryz.prog.info? 76).map (fun i => (i.zero, i.size, i.bytes)) = some (some (.agg #[.string ⟨#[]⟩, .string ⟨#[]⟩]), 2, 32) := by kernel_rfl
theorem app_p2 {w : World} {N : Nat} {v : Value} {l : List P2} {x : P2} {B : Nat} (hown : RowP2 w N v l) (hb : w.heap[B]? = some (.cells #[.string x.1, .string x.2] 76 (0, 0))) (hl : l.length ≤ 100000) (hN : N ≤ w.heap.size) :
    ∃ v' w', (Builtin.append_ #[42, 42] 42 #[v, .slice (some ⟨B, 0, none⟩) 1 1]).run Tryz.prog w = .ok v' w' ∧ RowP2 w' N v' (l ++ [x]) ∧ w.grownBy w' v.ownBlock := by
  obtain ⟨i0, hi, hz0, hz1, hz2⟩ := info_parts infoP2
  have news : ∀ j u, (cP2 [x])[j]? = some u → w.cell? ((⟨B, 0, none⟩ : Addr).add j) = some u := fun j u hj => by
    rw [Addr.add_lit]
    match j, hj with
    | 0, hj => exact (cell_of hb rfl).trans hj
    | 1, hj => exact (cell_of hb rfl).trans hj
    | j + 2, hj => simp [cP2] at hj
  obtain ⟨v', w', hr, h2, h3, _⟩ := run_append_own_at (P := Tryz.prog) w N 42 42 76 i0 (.agg #[.string ⟨#[]⟩, .string ⟨#[]⟩]) 2 32 Tryz.underlying42 hi hz0 hz1 hz2 rfl (by decide) v l.length (cP2 l) hown ⟨B, 0, none⟩ 1 1 (cP2 [x]) (by rfl) news (cP2_one [x]) (by unfold maxLen; omega) (by omega) hN
  refine ⟨v', w', hr, ?_, h3⟩
  unfold RowP2
  rw [cP2_append, List.length_append]
  exact h2
theorem row_baseV {w : World} {B B' e s n : Nat} {v : Value} {xs : List Value} (h : w.ownsRow B e s v n xs) (hB : B' ≤ B) : w.ownsRow B' e s v n xs := by
  refine ⟨h.1, ?_⟩
  rcases h.2 with h1 | ⟨g, cap, cur, rfl, h1, h2⟩
  · exact .inl h1
  · exact .inr ⟨g, cap, cur, rfl, Nat.le_trans hB h1, h2⟩
theorem p2_below {w w' : World} {N : Nat} {v : Value} {l : List P2} (h : RowP2 w N v l) (hN : N ≤ w.heap.size) (hg : w.grownBy w' v.ownBlock) : Below N w w' := by
  refine ⟨hg.os, hg.tape, hg.output, hg.size, fun k hk => hg.block k (by omega) fun e => ?_⟩
  rcases h.2 with ⟨rfl, _⟩ | ⟨g', cap, cur, rfl, hb, _⟩
  · cases e
  · simp only [Value.ownBlock, Option.some.injEq] at e
    omega
end Go.Proofs.YtagamkahfiackaaGreatDoor
