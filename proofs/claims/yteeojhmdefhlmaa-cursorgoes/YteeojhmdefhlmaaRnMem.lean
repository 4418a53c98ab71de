/- Rows of the document's pairs; the document's at, Get. -/
import Derived.Test.YteeojhmdefhlmaaShMem
namespace Go.Proofs.Yteeojhmdefhlmaa
open Go.RowKit Go.Sort

def RowR (w : World) (B : Nat) (v : Value) (l : List It) : Prop := w.ownsRow B 47 2 v l.length (cI l)
theorem infoPr : (Try.prog.info? 47).map (fun i => (i.zero, i.size, i.bytes)) = some (some (.agg #[.string ⟨#[]⟩, .string ⟨#[]⟩]), 2, 32) := by kernel_rfl
theorem RowR.items {w : World} {B : Nat} {v : Value} {l : List It} (h : RowR w B v l) : ItsIn w v l := by
  obtain ⟨a, c, rfl, _, ha1, _, hcm⟩ := row_shape h
  refine ⟨a, c, rfl, by unfold maxLen at hcm; omega, fun i x hi => ?_⟩
  have hl : i < l.length := (List.getElem?_eq_some_iff.1 hi).1
  obtain ⟨g, c', cur, e, hg, _, _, _, hx⟩ := row_open h (by omega)
  simp only [Value.slice.injEq] at e
  obtain ⟨rfl, _⟩ := e
  obtain ⟨c1, c2⟩ := cI_get l i x hi
  have get : ∀ j u, (cI l)[j]? = some u → w.cell? ⟨g, j, none⟩ = some u := fun j u hj => by
    refine cell_of hg ?_
    rw [← hx, List.getElem?_take] at hj
    split at hj
    · simpa using hj
    · cases hj
  exact ⟨g, rfl, blk_lt hg, get _ _ c1, get _ _ c2⟩
/-- Where a key stands. -/
theorem lo_get {l : List It} (hs : Srt l) (k : ByteArray) : (∀ i, i < (lo k l).length → ∃ x, l[i]? = some x ∧ ltb x.1 k = true) ∧
    ((lo k l).length = l.length ∧ get k l = none ∨ ∃ x : It, l[(lo k l).length]? = some x ∧ ltb x.1 k = false ∧ (x.1 = k ∧ get k l = some x.2 ∨ x.1 ≠ k ∧ get k l = none)) := by
  have hlo : ∀ i (l' : List It), l = lo k l ++ l' → i < (lo k l).length → ∃ x, l[i]? = some x ∧ ltb x.1 k = true := fun i l' e hi => by
    obtain ⟨x, hx⟩ := getElem?_of_lt hi
    refine ⟨x, ?_, (mem_lo.1 (List.mem_of_getElem? hx)).2⟩
    rw [e, List.getElem?_append_left hi]
    exact hx
  rcases hs.about k with ⟨e, g⟩ | ⟨u, e, g⟩
  · refine ⟨fun i hi => hlo i _ e hi, ?_⟩
    cases hh : hi k l with
    | nil =>
      left
      refine ⟨?_, g⟩
      conv => rhs; rw [e]
      rw [hh, List.append_nil]
    | cons y ys =>
      right
      have hy : ltb k y.1 = true := (mem_hi.1 (show y ∈ hi k l by rw [hh]; exact List.mem_cons_self)).2
      refine ⟨y, ?_, ltb_asymm hy, .inr ⟨fun q => ltb_ne hy q.symm, g⟩⟩
      rw [hh] at e
      conv => lhs; rw [e]
      rw [lo_append, lo_of fun x hx => (mem_lo.1 hx).2, lo_none (l := y :: ys) fun x hx => (mem_hi.1 (show x ∈ hi k l by rw [hh]; exact hx)).2, List.append_nil, List.getElem?_append_right (Nat.le_refl _)]
      simp
  · refine ⟨fun i hi => hlo i _ e hi, .inr ⟨(k, u), ?_, ltb_irrefl k, .inl ⟨rfl, g⟩⟩⟩
    have hl : (lo k l).length ≤ (lo k l).length := Nat.le_refl _
    have := List.getElem?_append_right (l₁ := lo k l) (l₂ := (k, u) :: hi k l) hl
    rw [← e] at this
    rw [this]
    simp
set_option maxRecDepth 100000 in
set_option maxHeartbeats 1000000 in
theorem at_ {w : World} {B : Nat} {v : Value} {l : List It} (hr : RowR w B v l) (hs : Srt l) (hl : l.length ≤ 1000) (k : ByteArray) :
    Calls Try.prog 47 #[v, .string k] w fun e w' => e = .returned (.tuple #[.int .i64 (lo k l).length, .bool (get k l).isSome]) ∧ Below w.heap.size w w' := by
  obtain ⟨a, c, rfl, hc63, hat⟩ := hr.items
  obtain ⟨h1, h2⟩ := lo_get hs k
  have hml : (lo k l).length ≤ l.length := List.length_filter_le _ _
  have HIt : Hid (∀ i x, l[i]? = some x → ∃ g, a = some ⟨g, 0, none⟩ ∧ w.cell? ⟨g, i * 2, none⟩ = some (.string x.1)) := fun i x hi => by
    obtain ⟨g, e1, _, h3, _⟩ := hat i x hi
    exact ⟨g, e1, h3⟩
  have HLt : Hid (∀ i x, l[i]? = some x → i < l.length) := fun i x hi => (List.getElem?_eq_some_iff.1 hi).1
  have H1 := Lib.hid h1
  have H2 := Lib.hid h2
  clear hr hs h1 h2 hat
  generalize (lo k l).length = m at *
  generalize l.length = L at *
  generalize get k l = gk at *
  go_enter Try.func47, Try.ntmps47
  go_wp2_with fail
  go_loopg [6] m (fun kx s6 wr => ∃ i : Nat, s6 = .int .i64 i ∧ i ≤ m ∧ m - i ≤ kx ∧ wr = w)
  case atStart => exact ⟨0, rfl, Nat.zero_le _, by omega, rfl⟩
  case round =>
    obtain ⟨i, rfl, hi, hkx, hwr⟩ := hrel
    have hwr := hwr.symm
    subst hwr
    by_cases hlt : i < m
    · obtain ⟨x, hx, hxk⟩ := H1.out i hlt
      obtain ⟨g, rfl, d1⟩ := HIt.out i x hx
      have hxk' : Op.bytesLess x.1.toList k.toList = true := hxk
      have hiL : i < L := by omega
      have hw1 := wraps_i64 ((i : Int) + 1) (by omega) (by omega)
      clear H1 H2 HIt HLt hx hxk
      generalize x.1 = x1 at *
      go_wp2_with fail
      go_roundg (m - (i + 1))
      case measure => omega
      case rel => exact ⟨i + 1, by rw [show (i : Int) + 1 = ((i + 1 : Nat) : Int) by omega], by omega, Nat.le_refl _, rfl⟩
    · obtain rfl : i = m := by omega
      rcases H2.out with ⟨e1, e2⟩ | ⟨x, hx, hxk, hc⟩
      · subst e2
        have hge : ¬ (i : Int) < (L : Int) := by omega
        have hge2 : decide (i < L) = false := decide_eq_false (by omega)
        clear H1 H2 HIt HLt e1
        go_wp2_with fail
        go_big_quiet (fail)
        have HB1 := Lib.hid (below_drewN (Below.refl w.heap.size w) nq)
        go_wp2_with fail
        go_ret2
        exact ⟨rfl, HB1.out⟩
      · obtain ⟨g, rfl, d1⟩ := HIt.out i x hx
        have hxk' : Op.bytesLess x.1.toList k.toList = false := hxk
        have hiL : i < L := HLt.out i x hx
        have hlt2 : decide (i < L) = true := decide_eq_true hiL
        clear H1 H2 HIt HLt hx hxk
        obtain ⟨x1, x2⟩ := x
        simp only at *
        rcases hc with ⟨rfl, rfl⟩ | ⟨hne, rfl⟩
        · go_wp2_with fail
          go_big_quiet (fail)
          have HB1 := Lib.hid (below_drewN (Below.refl w.heap.size w) nq)
          go_wp2_with fail
          go_ret2
          exact ⟨rfl, HB1.out⟩
        · have hne2 : (x1.toList == k.toList) = false := beq_false_of_ne fun e => hne (toList_inj e)
          go_wp2_with fail
          go_big_quiet (fail)
          have HB1 := Lib.hid (below_drewN (Below.refl w.heap.size w) nq)
          go_wp2_with fail
          go_ret2
          exact ⟨rfl, HB1.out⟩
end Go.Proofs.Yteeojhmdefhlmaa
