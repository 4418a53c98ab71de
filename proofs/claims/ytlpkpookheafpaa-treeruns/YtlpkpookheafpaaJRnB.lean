/- The document's From, To; the law's pair; The document's To; the law's pair. -/
import Derived.Test.YtlpkpookheafpaaRnMem
import Derived.Test.YtlpkpookheafpaaVDesc
namespace Go.Proofs.Ytlpkpookheafpaa
open Go.RowKit Go.Sort

theorem find_at {P : It → Bool} {l : List It} {i : Nat} {x : It} (hi : l[i]? = some x) (hx : P x = true) (h : ∀ j y, j < i → l[j]? = some y → P y = false) : l.find? P = some x := by
  induction l generalizing i with
  | nil => simp at hi
  | cons a l ih =>
    cases i with
    | zero => simp at hi; subst hi; simp [hx]
    | succ i =>
      have h0 := h 0 a (by omega) rfl
      rw [List.find?_cons, h0]
      exact ih (by simpa using hi) fun j y hj hy => h (j + 1) y (by omega) (by simpa using hy)
theorem find_nil {P : It → Bool} {l : List It} (h : ∀ (j : Nat) y, l[j]? = some y → P y = false) : l.find? P = none :=
  List.find?_eq_none.2 fun x hx => by
    obtain ⟨j, hj⟩ := List.getElem?_of_mem hx
    rw [h j x hj]
    simp
theorem last_at {P : It → Bool} {l : List It} {i : Nat} {x : It} (hi : l[i]? = some x) (hx : P x = true) (h : ∀ j y, i < j → l[j]? = some y → P y = false) : lastL P l = some x := by
  obtain ⟨h1, h2⟩ := List.getElem?_eq_some_iff.1 hi
  have e : l = l.take i ++ x :: l.drop (i + 1) := by rw [← h2, ← List.drop_eq_getElem_cons, List.take_append_drop]
  have hd : (l.drop (i + 1)).filter P = [] := List.filter_eq_nil_iff.2 fun y hy => by
    obtain ⟨j, hj⟩ := List.getElem?_of_mem hy
    rw [List.getElem?_drop] at hj
    rw [h _ y (by omega) hj]
    simp
  unfold lastL
  rw [e, List.filter_append, List.filter_cons_of_pos hx, hd]
  simp
theorem last_nil {P : It → Bool} {l : List It} (h : ∀ (j : Nat) y, l[j]? = some y → P y = false) : lastL P l = none := by
  unfold lastL
  rw [List.filter_eq_nil_iff.2 fun x hx => by
    obtain ⟨j, hj⟩ := List.getElem?_of_mem hx
    rw [h j x hj]
    simp]
  rfl
/-- A pair, or none. -/
def pairV (o : Option It) : Value := match o with | none => .agg #[.string ⟨#[]⟩, .string ⟨#[]⟩] | some x => .agg #[.string x.1, .string x.2]
def isB (o : Option It) : Bool := o.isSome
theorem store_pair {w : World} {g o : Nat} {u1 u2 k v : Value} (h1 : k.oneCell' = true) (h2 : v.oneCell' = true) (c1 : w.cell? ⟨g, o, none⟩ = some u1) (c2 : w.cell? ⟨g, o + 1, none⟩ = some u2) (f1 : w.frozen? ⟨g, o, none⟩ = false) (f2 : w.frozen? ⟨g, o + 1, none⟩ = false) : (Instr.storeAt 39 (.pointer (some ⟨g, o, none⟩)) (.agg #[k, v])).run Try.prog w = .ok () ((w.setCell ⟨g, o, none⟩ k).setCell ⟨g, o + 1, none⟩ v) := by
  have hs : (sizeOf 39).run Try.prog w = .ok 2 w := by kernel_rfl
  have c3 : (w.setCell ⟨g, o, none⟩ k).cell? ⟨g, o + 1, none⟩ = some u2 := by rw [World.cell?_setCell_other _ _ _ _ (fun e => by have := (Addr.mk.inj e).2.1; omega)]; exact c2
  have f3 : (w.setCell ⟨g, o, none⟩ k).frozen? ⟨g, o + 1, none⟩ = false := by
    have := World.frozen?_setCells g [k] o w ⟨g, o + 1, none⟩
    simp only [World.setCells] at this
    rw [this]; exact f2
  simp only [Instr.storeAt, Instr.sureAddr, Sem.run_bind, Sem.run_pure, Result.andThen]
  simp [storeVar, hs, Value.cells, Result.andThen, storeCells, run_store _ _ _ _ _ h1, run_store _ _ _ _ _ h2, Addr.add_lit, c1, f1, c3, f3]
/-- A pair stored into a block of one's own. -/
theorem pair_cell {w W : World} {g : Nat} {u1 u2 : Value} (x : It) (h : W.heap[g]? = some (.cells #[u1, u2] 39 (0, 0))) (hg : w.heap.size ≤ g) (hb : Below w.heap.size w W) :
    ∃ V2, (Instr.storeAt 39 (.pointer (some ⟨g, 0, none⟩)) (.agg #[.string x.1, .string x.2])).run Try.prog W = .ok () V2 ∧ V2.heap[g]? = some (.cells #[.string x.1, .string x.2] 39 (0, 0)) ∧ Below w.heap.size w V2 ∧ ∀ k, k ≠ g → V2.heap[k]? = W.heap[k]? := by
  have hk : ∀ k, k ≠ g → ((W.setCell ⟨g, 0, none⟩ (.string x.1)).setCell ⟨g, 0 + 1, none⟩ (.string x.2)).heap[k]? = W.heap[k]? := fun k hk => (heap_far _ hk).trans (heap_far _ hk)
  refine ⟨_, store_pair rfl rfl (cell_of h rfl) (cell_of h rfl) (frozen_of h) (frozen_of h), ?_, ⟨hb.os, hb.tape, hb.output, by rw [size_set, size_set]; exact hb.size, fun k hk' => (hk k (by omega)).trans (hb.block k hk')⟩, hk⟩
  rw [heap_set _ (heap_set _ h)]
  rfl
/-- What From and To leave. -/
def PairTo (w : World) (o : Option It) (e : Ending) (w' : World) : Prop := e = .returned (.tuple #[pairV o, .bool (isB o)]) ∧ Below w.heap.size w w'
set_option maxRecDepth 100000 in
set_option maxHeartbeats 2000000 in
theorem rfrom_ {w : World} {B : Nat} {v : Value} {l : List It} (hr : RowR w B v l) (hl : l.length ≤ 1000) (k : ByteArray) (b : Bool) :
    Calls Try.prog 33 #[v, .string k, .bool b] w (PairTo w (l.find? (frP k b))) := by
  obtain ⟨a, c, rfl, hc63, hat⟩ := hr.items
  have HIt : Hid (∀ i, i < l.length → ∃ x g, l[i]? = some x ∧ a = some ⟨g, 0, none⟩ ∧ ∀ V, Below w.heap.size w V → V.cell? ⟨g, i * 2, none⟩ = some (.string x.1) ∧ V.cell? ⟨g, i * 2 + 1, none⟩ = some (.string x.2)) := fun i hi => by
    obtain ⟨x, hx⟩ := getElem?_of_lt hi
    obtain ⟨g, e1, h2, h3, h4⟩ := hat i x hx
    exact ⟨x, g, hx, e1, fun V hV => ⟨(hV.cell (p := ⟨g, i * 2, none⟩) h2).trans h3, (hV.cell (p := ⟨g, i * 2 + 1, none⟩) h2).trans h4⟩⟩
  have HEnd : Hid ((∀ (j : Nat) y, j < l.length → l[j]? = some y → frP k b y = false) → l.find? (frP k b) = none) := fun h => find_nil fun j y hy => h j y (List.getElem?_eq_some_iff.1 hy).1 hy
  clear hr hat
  generalize l.length = L at *
  obtain ⟨W0, hW0⟩ : ∃ W0, W0 = w.alloc (.cells #[.string ⟨#[]⟩, .string ⟨#[]⟩] 39) := ⟨_, rfl⟩
  have HW0 := Lib.hid hW0
  have hb0 : Below w.heap.size w W0 := by rw [hW0]; exact below_alloc w _
  have hn0 : W0.heap[w.heap.size]? = some (.cells #[.string ⟨#[]⟩, .string ⟨#[]⟩] 39 (0, 0)) := by rw [hW0]; exact new_blk w _
  have HB0 := Lib.hid hb0
  have HSt : Hid (∀ x : It, ∃ V2, (Instr.storeAt 39 (.pointer (some ⟨w.heap.size, 0, none⟩)) (.agg #[.string x.1, .string x.2])).run Try.prog W0 = .ok () V2 ∧ V2.cell? ⟨w.heap.size, 0, none⟩ = some (.string x.1) ∧ V2.cell? ⟨w.heap.size, 1, none⟩ = some (.string x.2) ∧ Hid (Below w.heap.size w V2)) := fun x => by
    obtain ⟨V2, h1, h2, h3, _⟩ := pair_cell x hn0 (Nat.le_refl _) hb0
    exact ⟨V2, h1, cell_of h2 rfl, cell_of h2 rfl, h3⟩
  clear hW0 hb0 hn0
  go_enter Try.func33, Try.ntmps33
  go_wp2_with fail
  go_loopg [8] L (fun kx s8 wr => ∃ i : Nat, s8 = .int .i64 i ∧ i ≤ L ∧ L - i ≤ kx ∧ wr = W0 ∧ Hid (∀ (j : Nat) y, j < i → l[j]? = some y → frP k b y = false))
  case atStart => exact ⟨0, rfl, Nat.zero_le _, by omega, HW0.out.symm, fun j y hj => absurd hj (Nat.not_lt_zero _)⟩
  case round =>
    obtain ⟨i, rfl, hi, hkx, hwr, HJ⟩ := hrel
    have hwr := hwr.symm
    subst hwr
    clear HW0
    by_cases hlt : i < L
    · obtain ⟨x, g, hx, rfl, hcell⟩ := HIt.out i hlt
      obtain ⟨d1, d2⟩ := hcell W0 HB0.out
      obtain ⟨V2, hst, f1, f2, HB2⟩ := HSt.out x
      have hw1 := wraps_i64 ((i : Int) + 1) (by omega) (by omega)
      have hlt' : (i : Int) < (L : Int) := by omega
      have HF : Hid (frP k b x = true → l.find? (frP k b) = some x) := fun h => find_at hx h HJ.out
      have HN : Hid (frP k b x = false → ∀ (j : Nat) y, j < i + 1 → l[j]? = some y → frP k b y = false) := fun h j y hj hy => by
        rcases Nat.lt_or_ge j i with q | q
        · exact HJ.out j y q hy
        · obtain rfl : j = i := by omega
          rw [hx] at hy
          cases hy
          exact h
      clear HIt HEnd HSt hcell HJ hx
      obtain ⟨x1, x2⟩ := x
      simp only at d1 d2 hst f1 f2
      rcases ltb_cases x1 k with hc | hc | hc
      · have q1 : Op.bytesLess x1.toList k.toList = true := hc
        have q2 : Op.bytesLess k.toList x1.toList = false := ltb_asymm hc
        have q3 : (x1.toList == k.toList) = false := beq_false_of_ne fun e => ltb_ne hc (toList_inj e)
        have HN' := Lib.hid (HN.out (frP_lo hc))
        clear HF HN hc hst f1 f2
        go_wp2_with fail
        go_roundg (L - (i + 1))
        case measure => omega
        case rel => exact ⟨i + 1, by rw [show (i : Int) + 1 = ((i + 1 : Nat) : Int) by omega], by omega, Nat.le_refl _, rfl, HN'⟩
      · subst hc
        have q1 : Op.bytesLess x1.toList x1.toList = false := less_irrefl _
        cases b with
        | true =>
          have HN' := Lib.hid (HN.out (by simp [frP, ltb_irrefl]))
          clear HF HN hst f1 f2
          go_wp2_with fail
          go_roundg (L - (i + 1))
          case measure => omega
          case rel => exact ⟨i + 1, by rw [show (i : Int) + 1 = ((i + 1 : Nat) : Int) by omega], by omega, Nat.le_refl _, rfl, HN'⟩
        | false =>
          have HF' := Lib.hid (HF.out (by simp [frP, ltb_irrefl]))
          clear HF HN
          go_wp2_with (first
            | (refine wpList_store_at rfl _ _ _ rfl _ _ rfl rfl hst ?_)
            | fail)
          refine bodyPost_ret (v := .tuple #[.agg #[.string x1, .string x2], .bool true]) ?_ rfl ?_
          · rw [results_cell_tmp rfl]
            go_simp
          · rw [HF'.out]
            exact ⟨rfl, HB2.out⟩
      · have q1 : Op.bytesLess k.toList x1.toList = true := hc
        have q2 : Op.bytesLess x1.toList k.toList = false := ltb_asymm hc
        have q3 : (x1.toList == k.toList) = false := beq_false_of_ne fun e => ltb_ne hc (toList_inj e).symm
        have HF' := Lib.hid (HF.out (frP_hi hc))
        clear HF HN hc
        go_wp2_with (first
          | (refine wpList_store_at rfl _ _ _ rfl _ _ rfl rfl hst ?_)
          | fail)
        refine bodyPost_ret (v := .tuple #[.agg #[.string x1, .string x2], .bool true]) ?_ rfl ?_
        · rw [results_cell_tmp rfl]
          go_simp
        · rw [HF'.out]
          exact ⟨rfl, HB2.out⟩
    · obtain rfl : i = L := by omega
      obtain ⟨V2, hst, f1, f2, HB2⟩ := HSt.out (⟨#[]⟩, ⟨#[]⟩)
      have HE := Lib.hid (HEnd.out HJ.out)
      clear HIt HEnd HSt HJ
      simp only at hst f1 f2
      go_wp2_with (first
        | (refine wpList_store_at rfl _ _ _ rfl _ _ rfl rfl hst ?_)
        | fail)
      refine bodyPost_ret (v := .tuple #[.agg #[.string ⟨#[]⟩, .string ⟨#[]⟩], .bool false]) ?_ rfl ?_
      · rw [results_cell_tmp rfl]
        go_simp
      · rw [HE.out]
        exact ⟨rfl, HB2.out⟩
end Go.Proofs.Ytlpkpookheafpaa

namespace Go.Proofs.Ytlpkpookheafpaa
open Go.RowKit Go.Sort

set_option maxRecDepth 100000 in
set_option maxHeartbeats 2000000 in
theorem rto_ {w : World} {B : Nat} {v : Value} {l : List It} (hr : RowR w B v l) (hl : l.length ≤ 1000) (k : ByteArray) (b : Bool) :
    Calls Try.prog 34 #[v, .string k, .bool b] w (PairTo w (lastL (toP k b) l)) := by
  obtain ⟨a, c, rfl, hc63, hat⟩ := hr.items
  have HIt : Hid (∀ i, i < l.length → ∃ x g, l[i]? = some x ∧ a = some ⟨g, 0, none⟩ ∧ ∀ V, Below w.heap.size w V → V.cell? ⟨g, i * 2, none⟩ = some (.string x.1) ∧ V.cell? ⟨g, i * 2 + 1, none⟩ = some (.string x.2)) := fun i hi => by
    obtain ⟨x, hx⟩ := getElem?_of_lt hi
    obtain ⟨g, e1, h2, h3, h4⟩ := hat i x hx
    exact ⟨x, g, hx, e1, fun V hV => ⟨(hV.cell (p := ⟨g, i * 2, none⟩) h2).trans h3, (hV.cell (p := ⟨g, i * 2 + 1, none⟩) h2).trans h4⟩⟩
  have HEnd : Hid ((∀ (j : Nat) y, 0 ≤ j → l[j]? = some y → toP k b y = false) → lastL (toP k b) l = none) := fun h => last_nil fun j y hy => h j y (Nat.zero_le _) hy
  have HSt0 : Hid (∀ (j : Nat) y, l.length ≤ j → l[j]? = some y → toP k b y = false) := fun j y hj hy => (by rw [List.getElem?_eq_none hj] at hy; cases hy)
  clear hr hat
  generalize l.length = L at *
  obtain ⟨W0, hW0⟩ : ∃ W0, W0 = w.alloc (.cells #[.string ⟨#[]⟩, .string ⟨#[]⟩] 39) := ⟨_, rfl⟩
  have HW0 := Lib.hid hW0
  have hb0 : Below w.heap.size w W0 := by rw [hW0]; exact below_alloc w _
  have hn0 : W0.heap[w.heap.size]? = some (.cells #[.string ⟨#[]⟩, .string ⟨#[]⟩] 39 (0, 0)) := by rw [hW0]; exact new_blk w _
  have HB0 := Lib.hid hb0
  have HSt : Hid (∀ x : It, ∃ V2, (Instr.storeAt 39 (.pointer (some ⟨w.heap.size, 0, none⟩)) (.agg #[.string x.1, .string x.2])).run Try.prog W0 = .ok () V2 ∧ V2.cell? ⟨w.heap.size, 0, none⟩ = some (.string x.1) ∧ V2.cell? ⟨w.heap.size, 1, none⟩ = some (.string x.2) ∧ Hid (Below w.heap.size w V2)) := fun x => by
    obtain ⟨V2, h1, h2, h3, _⟩ := pair_cell x hn0 (Nat.le_refl _) hb0
    exact ⟨V2, h1, cell_of h2 rfl, cell_of h2 rfl, h3⟩
  clear hW0 hb0 hn0
  have hwL := wraps_i64 ((L : Int) - 1) (by omega) (by omega)
  go_enter Try.func34, Try.ntmps34
  go_wp2_with fail
  go_loopg [8] L (fun kx s8 wr => ∃ (m : Nat) (z : Int), s8 = .int .i64 z ∧ z = (m : Int) - 1 ∧ m ≤ L ∧ m ≤ kx ∧ wr = W0 ∧ Hid (∀ (j : Nat) y, m ≤ j → l[j]? = some y → toP k b y = false))
  case atStart => exact ⟨L, (L : Int) - 1, rfl, rfl, Nat.le_refl _, Nat.le_refl _, HW0.out.symm, HSt0⟩
  case round =>
    obtain ⟨m, z, rfl, hz, hi, hkx, hwr, HJ⟩ := hrel
    have hwr := hwr.symm
    subst hwr
    clear HW0 HSt0
    by_cases hlt : 0 < m
    · obtain ⟨i, rfl⟩ : ∃ i, m = i + 1 := ⟨m - 1, by omega⟩
      obtain rfl : z = (i : Int) := by omega
      clear hz hlt
      obtain ⟨x, g, hx, rfl, hcell⟩ := HIt.out i (by omega)
      obtain ⟨d1, d2⟩ := hcell W0 HB0.out
      obtain ⟨V2, hst, f1, f2, HB2⟩ := HSt.out x
      have hw1 := wraps_i64 ((i : Int) - 1) (by omega) (by omega)
      have hlt' : (i : Int) < (L : Int) := by omega
      have HF : Hid (toP k b x = true → lastL (toP k b) l = some x) := fun h => last_at hx h fun j y hj hy => HJ.out j y (by omega) hy
      have HN : Hid (toP k b x = false → ∀ (j : Nat) y, i ≤ j → l[j]? = some y → toP k b y = false) := fun h j y hj hy => by
        rcases Nat.lt_or_ge i j with q | q
        · exact HJ.out j y (by omega) hy
        · obtain rfl : j = i := by omega
          rw [hx] at hy
          cases hy
          exact h
      clear HIt HEnd HSt hcell HJ hx
      obtain ⟨x1, x2⟩ := x
      simp only at d1 d2 hst f1 f2
      rcases ltb_cases x1 k with hc | hc | hc
      · have q1 : Op.bytesLess x1.toList k.toList = true := hc
        have q2 : Op.bytesLess k.toList x1.toList = false := ltb_asymm hc
        have q3 : (x1.toList == k.toList) = false := beq_false_of_ne fun e => ltb_ne hc (toList_inj e)
        have HF' := Lib.hid (HF.out (toP_lo hc))
        clear HF HN hc
        go_wp2_with (first
          | (refine wpList_store_at rfl _ _ _ rfl _ _ rfl rfl hst ?_)
          | fail)
        refine bodyPost_ret (v := .tuple #[.agg #[.string x1, .string x2], .bool true]) ?_ rfl ?_
        · rw [results_cell_tmp rfl]
          go_simp
        · rw [HF'.out]
          exact ⟨rfl, HB2.out⟩
      · subst hc
        have q1 : Op.bytesLess x1.toList x1.toList = false := less_irrefl _
        cases b with
        | true =>
          have HN' := Lib.hid (HN.out (by simp [toP, ltb_irrefl]))
          clear HF HN hst f1 f2
          go_wp2_with fail
          go_roundg i
          case measure => omega
          case rel => exact ⟨i, (i : Int) - 1, rfl, rfl, by omega, Nat.le_refl _, rfl, HN'⟩
        | false =>
          have HF' := Lib.hid (HF.out (by simp [toP, ltb_irrefl]))
          clear HF HN
          go_wp2_with (first
            | (refine wpList_store_at rfl _ _ _ rfl _ _ rfl rfl hst ?_)
            | fail)
          refine bodyPost_ret (v := .tuple #[.agg #[.string x1, .string x2], .bool true]) ?_ rfl ?_
          · rw [results_cell_tmp rfl]
            go_simp
          · rw [HF'.out]
            exact ⟨rfl, HB2.out⟩
      · have q1 : Op.bytesLess k.toList x1.toList = true := hc
        have q2 : Op.bytesLess x1.toList k.toList = false := ltb_asymm hc
        have q3 : (x1.toList == k.toList) = false := beq_false_of_ne fun e => ltb_ne hc (toList_inj e).symm
        have HN' := Lib.hid (HN.out (toP_hi hc))
        clear HF HN hc hst f1 f2
        go_wp2_with fail
        go_roundg i
        case measure => omega
        case rel => exact ⟨i, (i : Int) - 1, rfl, rfl, by omega, Nat.le_refl _, rfl, HN'⟩
    · obtain rfl : m = 0 := by omega
      obtain rfl : z = -1 := by omega
      clear hz hlt
      obtain ⟨V2, hst, f1, f2, HB2⟩ := HSt.out (⟨#[]⟩, ⟨#[]⟩)
      have HE := Lib.hid (HEnd.out HJ.out)
      clear HIt HEnd HSt HJ
      simp only at hst f1 f2
      go_wp2_with (first
        | (refine wpList_store_at rfl _ _ _ rfl _ _ rfl rfl hst ?_)
        | fail)
      refine bodyPost_ret (v := .tuple #[.agg #[.string ⟨#[]⟩, .string ⟨#[]⟩], .bool false]) ?_ rfl ?_
      · rw [results_cell_tmp rfl]
        go_simp
      · rw [HE.out]
        exact ⟨rfl, HB2.out⟩
set_option maxRecDepth 100000 in
theorem pair_ (w : World) (x1 x2 : ByteArray) (b : Bool) : Calls Try.prog 19 #[.string x1, .string x2, .bool b, .agg #[.string x1, .string x2], .bool b] w fun e w' => e = .returned (.bool true) ∧ Below w.heap.size w w' := by
  obtain ⟨W0, hW0⟩ : ∃ W0, W0 = w.alloc (.cells #[.string x1, .string x2] 39) := ⟨_, rfl⟩
  have hb0 : Below w.heap.size w W0 := by rw [hW0]; exact below_alloc w _
  rw [hW0] at hb0
  have HB0 := Lib.hid hb0
  clear hb0 hW0
  go_enter Try.func19, Try.ntmps19
  go_wp2_with fail
  go_ret
  exact ⟨by simp, HB0.out⟩
end Go.Proofs.Ytlpkpookheafpaa
