/- node.find: a key among a node's items, by halves. -/
import Derived.Test.YtagamkahfiackaaGreatDoorVTake
namespace Go.Proofs.YtagamkahfiackaaGreatDoor
open Go.RowKit Go.Sort

set_option maxRecDepth 100000 in
theorem cmpString_ (a b : ByteArray) (w : World) : Calls Tryz.prog 85 #[.string a, .string b] w fun e w' => e = .returned (.int .i64 (Lib.compareBytes a.data.toList b.data.toList)) ∧ w' = w := by
  go_enter Tryz.func85, Tryz.ntmps85
  go_wp2
  rw [run_callFunc_extern Tryz.func89 (by kernel_rfl) (by kernel_rfl) (by kernel_rfl) (e := Extern.BytealgCompare.compare) (by kernel_rfl), Lib.run_compareString]
  simp only [Result.andThen]
  rw [Oper.upon_value]
  go_wp2
  go_ret
  exact ⟨rfl, rfl⟩
theorem sCompare_ (a b : ByteArray) (w : World) : Calls Tryz.prog 75 #[.string a, .string b] w fun e w' => e = .returned (.int .i64 (Lib.compareBytes a.data.toList b.data.toList)) ∧ w' = w := by
  go_enter Tryz.func75, Tryz.ntmps75
  go_wp2_with (first | (go_at_call 85; refine (cmpString_ _ _ _).mono ?_; rintro e w' ⟨rfl, rfl⟩) | fail)
  go_ret
  exact ⟨rfl, rfl⟩
theorem itcompare_ (x1 : ByteArray) (x2 : Vl) (k : ByteArray) (w : World) : Calls Tryz.prog 58 #[.agg #[.string x1, .slice x2.a x2.n x2.c], .string k] w fun e w' => e = .returned (.int .i64 (Lib.compareBytes x1.data.toList k.data.toList)) ∧ Below w.heap.size w w' := by
  have HB := Lib.hid (below_alloc w (.cells #[.string x1, .slice x2.a x2.n x2.c] 99))
  go_enter Tryz.func58, Tryz.ntmps58
  go_wp2_with (first | (go_at_call 75; refine (sCompare_ _ _ _).mono ?_; rintro e w' ⟨rfl, rfl⟩) | fail)
  go_ret
  exact ⟨rfl, HB.out⟩
/-- Items behind a slice. -/
def ItsIn (w : World) (v : Value) (its : List It) : Prop := ∃ a c, v = .slice a its.length c ∧ c ≤ 9223372036854775807 ∧ ∀ i x, its[i]? = some x → ∃ g, a = some ⟨g, 0, none⟩ ∧ g < w.heap.size ∧ w.cell? ⟨g, i * 2, none⟩ = some (.string x.1) ∧ w.cell? ⟨g, i * 2 + 1, none⟩ = some (.slice x.2.a x.2.n x.2.c)
theorem RowI.items {w : World} {v : Value} {its : List It} (h : RowI w v its) : ItsIn w v its := by
  obtain ⟨a, c, rfl, _, ha1, _, hcm⟩ := row_shape h
  refine ⟨a, c, rfl, by unfold maxLen at hcm; omega, fun i x hi => ?_⟩
  have hl : i < its.length := (List.getElem?_eq_some_iff.1 hi).1
  obtain ⟨g, c', cur, e, hg, _, _, _, hx⟩ := row_open h (by omega)
  cases e
  obtain ⟨c1, c2⟩ := cI_get its i x hi
  have get : ∀ j u, (cI its)[j]? = some u → w.cell? ⟨g, j, none⟩ = some u := fun j u hj => by
    refine cell_of hg ?_
    rw [← hx, List.getElem?_take] at hj
    split at hj
    · simpa using hj
    · cases hj
  exact ⟨g, rfl, blk_lt hg, get _ _ c1, get _ _ c2⟩
theorem ItsIn.on {w w' : World} {v : Value} {its : List It} (h : ItsIn w v its) (hb : Below w.heap.size w w') : ItsIn w' v its := by
  obtain ⟨a, c, e, hc, h1⟩ := h
  refine ⟨a, c, e, hc, fun i x hi => ?_⟩
  obtain ⟨g, e1, h2, h3, h4⟩ := h1 i x hi
  exact ⟨g, e1, Nat.lt_of_lt_of_le h2 hb.size, (hb.cell (p := ⟨g, i * 2, none⟩) h2).trans h3, (hb.cell (p := ⟨g, i * 2 + 1, none⟩) h2).trans h4⟩
def FindTo (w : World) (its : List It) (k : ByteArray) (e : Ending) (w' : World) : Prop := ∃ (i : Nat) (b : Bool), e = .returned (.tuple #[.int .i64 i, .bool b]) ∧ Found its k i b ∧ Below w.heap.size w w'
theorem getElem?_of_lt {α : Type} {l : List α} {i : Nat} (h : i < l.length) : ∃ x, l[i]? = some x := ⟨l[i], List.getElem?_eq_getElem h⟩
set_option maxRecDepth 100000 in
set_option maxHeartbeats 1000000 in
theorem bin_ {w : World} {v : Value} {its : List It} (h : ItsIn w v its) (hs : Srt its) (hn : its.length ≤ 1000) (k : ByteArray) :
    Calls Tryz.prog 57 #[v, .string k, .func (.func 58) #[] #[]] w (FindTo w its k) := by
  obtain ⟨a, c, rfl, hc63, hat⟩ := id h
  have HI : Hid (∀ V, Below w.heap.size w V → ∀ i x, its[i]? = some x → ∃ g, a = some ⟨g, 0, none⟩ ∧ V.cell? ⟨g, i * 2, none⟩ = some (.string x.1) ∧ V.cell? ⟨g, i * 2 + 1, none⟩ = some (.slice x.2.a x.2.n x.2.c)) := fun V hV i x hi => by
    obtain ⟨g, e1, h2, h3, h4⟩ := hat i x hi
    exact ⟨g, e1, (hV.cell (p := ⟨g, i * 2, none⟩) h2).trans h3, (hV.cell (p := ⟨g, i * 2 + 1, none⟩) h2).trans h4⟩
  have HM : Hid (∀ (i j : Nat) (x y : It), i < j → its[i]? = some x → its[j]? = some y → ltb x.1 y.1 = true) := fun i j x y hij hi hj => by
    have := List.pairwise_iff_getElem.1 hs
    obtain ⟨h1, e1⟩ := List.getElem?_eq_some_iff.1 hi
    obtain ⟨h2, e2⟩ := List.getElem?_eq_some_iff.1 hj
    have := this i j h1 h2 hij
    rw [e1, e2] at this
    exact this
  have HF : Hid (∀ i, i ≤ its.length → (∀ j x, j < i → its[j]? = some x → ltb x.1 k = true) → (∀ x, its[i]? = some x → ltb x.1 k = false) → Found its k i (its[i]?.any fun x => !(ltb k x.1))) := fun i hi h1 h2 => found_of hs k i hi h1 h2
  have HN : Hid (∀ i, i < its.length → ∃ x, its[i]? = some x) := fun i hi => getElem?_of_lt hi
  have B0 := Lib.hid (Below.refl w.heap.size w)
  have HX : Hid (∀ i, its.length ≤ i → its[i]? = none) := fun i hi => List.getElem?_eq_none hi
  clear h hs hat
  generalize hnn : its.length = n at *
  clear hnn
  go_enter Tryz.func57, Tryz.ntmps57
  go_wp2_with fail
  go_loopg [9, 10] n (fun kx s9 s10 wr => ∃ lo hi : Nat, s9 = .int .i64 lo ∧ s10 = .int .i64 hi ∧ lo ≤ hi ∧ hi ≤ n ∧ hi - lo ≤ kx ∧ Hid (Below w.heap.size w wr) ∧
    Hid ((∀ j x, j < lo → its[j]? = some x → ltb x.1 k = true) ∧ (∀ j x, hi ≤ j → its[j]? = some x → ltb x.1 k = false)))
  case atStart => exact ⟨0, n, rfl, rfl, Nat.zero_le _, Nat.le_refl _, by omega, B0, ⟨fun j x hj => absurd hj (Nat.not_lt_zero _), fun j x hj e => by rw [HX.out j hj] at e; cases e⟩⟩
  case round =>
    clear B0
    obtain ⟨lo, hi, rfl, rfl, hlh, hin, hg, S1, I⟩ := hrel
    by_cases hlt : lo < hi
    · obtain ⟨y, hy⟩ := HN.out ((lo + hi) / 2) (by omega)
      obtain ⟨g, rfl, c1, c2⟩ := HI.out wr S1.out _ y hy
      have HY := Lib.hid hy
      clear hy
      by_cases hyx : ltb y.1 k = true
      · have hcmp : Lib.compareBytes y.1.data.toList k.data.toList < 0 := (compare_ltb y.1 k).1.2 hyx
        go_wp2_with (first | (go_at_call 58; refine (itcompare_ _ _ _ _).mono ?_; rintro e w' ⟨rfl, hb⟩; have HB := Lib.hid hb; clear hb) | fail)
        go_roundg (hi - ((lo + hi) / 2 + 1))
        case measure => omega
        case rel =>
          refine ⟨(lo + hi) / 2 + 1, hi, by rw [show ((lo : Int) + (hi : Int)) / 2 + 1 = (((lo + hi) / 2 + 1 : Nat) : Int) by omega], rfl, by omega, hin, Nat.le_refl _, below_step S1.out HB.out, fun j x hj e => ?_, I.out.2⟩
          rcases Nat.lt_or_ge j ((lo + hi) / 2) with q | q
          · exact ltb_trans (HM.out j _ x y q e HY.out) hyx
          · obtain rfl : j = (lo + hi) / 2 := by omega
            rw [HY.out] at e; cases e; exact hyx
      · have hcmp : ¬ Lib.compareBytes y.1.data.toList k.data.toList < 0 := fun e => hyx ((compare_ltb y.1 k).1.1 e)
        go_wp2_with (first | (go_at_call 58; refine (itcompare_ _ _ _ _).mono ?_; rintro e w' ⟨rfl, hb⟩; have HB := Lib.hid hb; clear hb) | fail)
        go_roundg ((lo + hi) / 2 - lo)
        case measure => omega
        case rel =>
          refine ⟨lo, (lo + hi) / 2, rfl, by rw [show ((lo : Int) + (hi : Int)) / 2 = (((lo + hi) / 2 : Nat) : Int) by omega], by omega, by omega, Nat.le_refl _, below_step S1.out HB.out, I.out.1, fun j x hj e => ?_⟩
          rcases Nat.lt_or_ge ((lo + hi) / 2) j with q | q
          · have hm := HM.out _ j y x q HY.out e
            by_cases hx : ltb x.1 k = true
            · exact absurd (ltb_trans hm hx) hyx
            · simpa using hx
          · obtain rfl : j = (lo + hi) / 2 := by omega
            rw [HY.out] at e; cases e; simpa using hyx
    · obtain rfl : hi = lo := by omega
      have HFo := Lib.hid (HF.out hi hin I.out.1 (fun x e => I.out.2 hi x (Nat.le_refl _) e))
      by_cases hn2 : hi < n
      · obtain ⟨y, hy⟩ := HN.out hi hn2
        obtain ⟨g, rfl, c1, c2⟩ := HI.out wr S1.out _ y hy
        rw [hy] at HFo
        have hge := I.out.2 hi y (Nat.le_refl _) hy
        clear hy
        by_cases hyx : ltb k y.1 = true
        · have hcmp : ¬ Lib.compareBytes y.1.data.toList k.data.toList = 0 := fun e => by
            have := (compare_ltb y.1 k).2.1 e
            rw [this, ltb_irrefl] at hyx; cases hyx
          have HFp : Hid (Found its k hi false) := by have := HFo.out; show Found _ _ _ _; simpa [hyx] using this
          go_wp2_with (first | (go_at_call 58; refine (itcompare_ _ _ _ _).mono ?_; rintro e w' ⟨rfl, hb⟩; have HB := Lib.hid hb; clear hb) | fail)
          go_ret2
          exact ⟨hi, false, by simp [hcmp], HFp.out, below_step S1.out HB.out⟩
        · have hye : y.1 = k := ltb_total hge (by simpa using hyx)
          have hcmp : Lib.compareBytes y.1.data.toList k.data.toList = 0 := (compare_ltb y.1 k).2.2 hye
          have HFp : Hid (Found its k hi true) := by have := HFo.out; show Found _ _ _ _; simpa [hyx] using this
          clear hye
          go_wp2_with (first | (go_at_call 58; refine (itcompare_ _ _ _ _).mono ?_; rintro e w' ⟨rfl, hb⟩; have HB := Lib.hid hb; clear hb) | fail)
          go_ret2
          exact ⟨hi, true, by first | rfl | simp, HFp.out, below_step S1.out HB.out⟩
      · have HFp : Hid (Found its k hi false) := by have := HFo.out; rw [HX.out hi (by omega)] at this; exact this
        go_wp2_with fail
        go_ret2
        exact ⟨hi, false, rfl, HFp.out, S1.out⟩
end Go.Proofs.YtagamkahfiackaaGreatDoor
