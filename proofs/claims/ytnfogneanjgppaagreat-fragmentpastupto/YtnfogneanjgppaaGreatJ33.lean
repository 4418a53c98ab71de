/- values: a row of bytes read; rowsOf: the rows alone; Plain facts: the items of a list in order that lie in a range, from the first on and from the last on. No program is in it; Has, behindFrom, aheadOfTo, Empty; Regions that draw their order and make memory: each operation that may come up, one by one. -/
import Derived.Test.YtnfogneanjgppaaGreatJ29
import Derived.Test.YtnfogneanjgppaaGreatJ32
import Derived.Test.YtnfogneanjgppaaGreatJ9
import Derived.Test.YtnfogneanjgppaaGreatJ17
import Derived.Test.YtnfogneanjgppaaGreatJ16
import Derived.Test.YtnfogneanjgppaaGreatJ6
namespace Go.Proofs.YtnfogneanjgppaaGreat
open Go.RowKit Go.Sort

/-- The values of a row. -/
def ValTo (w : World) (vs : List Rw.Val) (e : Ending) (w' : World) : Prop :=
  ∃ a c, e = .returned (.slice a vs.length c) ∧ (Rw.ValsIn w' a vs ∧ ∀ b o, a = some ⟨b, o, none⟩ → w.heap.size ≤ b) ∧ Below w.heap.size w w'
set_option maxRecDepth 100000 in
set_option maxHeartbeats 1000000 in
theorem fvalues_ {w : World} {nm : ByteArray} {a : Option Addr} {c : Nat} {cs : List Rw.Col} (hc : Tb.ColsIn w a cs) (hcl : cs.length ≤ 16) {r : Vl} {vs : List Rw.Val} (hr : RowAt w r (bs (Rw.rowB vs))) (hw : ∀ v ∈ vs, Rw.inI v.n) (hwt : Rw.wtV vs ≤ 1048576) (h0 : Rw.chkR cs vs = 0) :
    Calls Tryz.prog 27 #[.agg #[.string nm, .slice a cs.length c], .slice r.a r.n r.c] w (ValTo w vs) := by
  obtain ⟨M, hM⟩ : ∃ M, cs.length = M := ⟨_, rfl⟩
  obtain ⟨W1, hW1⟩ : ∃ W1, w.alloc (.cells #[.string nm, .slice a M c] 44) = W1 := ⟨_, rfl⟩
  have hb1 : Below w.heap.size w W1 := by rw [← hW1]; exact below_alloc _ _
  have hk1 : W1.heap[w.heap.size]? = some (.cells #[.string nm, .slice a M c] 44 (0, 0)) := by rw [← hW1]; exact new_blk _ _
  have k0 : W1.cell? ⟨w.heap.size, 0, none⟩ = some (.string nm) := cell_of hk1 rfl
  have k1 : W1.cell? ⟨w.heap.size, 1, none⟩ = some (.slice a M c) := cell_of hk1 rfl
  have hns := ns_bs (Rw.rowB_byte vs)
  have HD : Hid (Calls Tryz.prog 52 #[.agg #[.string nm, .slice a M c], .slice r.a r.n r.c] W1 (Rw.DecOk W1 vs.length vs)) := by
    obtain ⟨e1, e2, e3⟩ := (hr.on hb1).bytes
    rw [hns] at e1 e2
    obtain ⟨_, _, e4, _, _, e5, _⟩ := row_shape (hr.on hb1).own
    simp only [Value.slice.injEq] at e4
    obtain ⟨_, e6, e7⟩ := e4
    have hcp : (Rw.rowB vs).length ≤ r.c := by rw [← e1, e7]; rw [e6]; exact e5
    have := Rw.decOk (nm := nm) (ct := c) (c1 := r.c) (show Rw.ColsIn w a cs from hc) hb1 (show Rw.BytesIn W1 r.a (Rw.rowB vs) from e2) hw (by omega) hwt h0 hcp
    rw [hM, ← e1] at this
    exact this
  have HB1 := Lib.hid hb1
  unfold Rw.DecOk at HD
  unfold ValTo
  rw [hM]
  generalize vs.length = L at *
  clear hk1 hns hr hc hw hwt h0 hb1 hcl hM
  go_enter Tryz.func27, Tryz.ntmps27
  go_upto_region 1 with fail
  try rw [hW1]
  go_wp2_with (first | (go_at_call 52; refine HD.out.mono ?_; rintro e w2 ⟨a2, c2, rfl, ⟨hv, hfr⟩, hb2⟩; have HV := Lib.hid (And.intro hv (And.intro hfr hb2)); clear hv hfr hb2 HD) | fail)
  go_ret
  exact ⟨a2, c2, rfl, ⟨HV.out.1, fun b o e => Nat.le_trans HB1.out.size (HV.out.2.1 b o e)⟩, below_step HB1.out HV.out.2.2⟩

/-! ### rowsOf -/
/-- A row as it is handed back: its label's place, its values. -/
def arC (x : SnV) : List Value := [.int .i64 x.p, .slice x.r.a x.r.n x.r.c]
def arCs (l : List SnV) : List Value := l.flatMap arC
theorem arCs_at : ∀ (l : List SnV) (i : Nat) (h : i < l.length), (arCs l)[i * 2]? = some (.int .i64 l[i].p) ∧ (arCs l)[i * 2 + 1]? = some (.slice l[i].r.a l[i].r.n l[i].r.c)
  | x :: l, 0, _ => ⟨rfl, rfl⟩
  | x :: l, i + 1, h => by
    have ih := arCs_at l i (by simpa using h)
    have e : arCs (x :: l) = .int .i64 x.p :: .slice x.r.a x.r.n x.r.c :: arCs l := rfl
    rw [e, show (i + 1) * 2 = i * 2 + 1 + 1 by omega]
    simp only [List.getElem?_cons_succ, List.getElem_cons_succ]
    exact ih
theorem arCs_one (l : List SnV) : ∀ u ∈ arCs l, u.oneCell' = true := fun u hu => by
  obtain ⟨c, _, hc⟩ := List.mem_flatMap.1 hu
  simp only [arC, List.mem_cons, List.not_mem_nil, or_false] at hc
  rcases hc with rfl | rfl <;> rfl
def RowA (w : World) (B : Nat) (v : Value) (l : List SnV) : Prop := w.ownsRow B 54 2 v l.length (arCs l)
theorem infoAr : (Tryz.prog.info? 54).map (fun i => (i.zero, i.size, i.bytes)) = some (some (.agg #[.int .i64 0, .slice none 0 0]), 2, 32) := by kernel_rfl
theorem app_ar {w : World} {B b : Nat} {v : Value} {l : List SnV} {x : SnV} (hown : RowA w B v l) (hb : w.heap[b]? = some (.cells #[.int .i64 x.p, .slice x.r.a x.r.n x.r.c] 54 (0, 0))) (hl : l.length ≤ 100000000) (hN : B ≤ w.heap.size) :
    ∃ a n c w', (Builtin.append_ #[39, 39] 39 #[v, .slice (some ⟨b, 0, none⟩) 1 1]).run Tryz.prog w = .ok (.slice a n c) w' ∧ RowA w' B (.slice a n c) (l ++ [x]) ∧ w.grownBy w' v.ownBlock := by
  obtain ⟨i0, hi, hz0, hz1, hz2⟩ := info_parts infoAr
  have hnews : ∀ j u, (arC x)[j]? = some u → w.cell? ((⟨b, 0, none⟩ : Addr).add j) = some u := fun j u hj => by
    rw [Addr.add_lit, Nat.zero_add]
    exact cell_of hb (by simpa [arC] using hj)
  obtain ⟨v', w', hr, h2, h3, _, h5⟩ := run_append_own_at (P := Tryz.prog) w B 39 39 54 i0 (.agg #[.int .i64 0, .slice none 0 0]) 2 32 Tryz.underlying39 hi hz0 hz1 hz2 rfl (by decide) v l.length (arCs l) hown ⟨b, 0, none⟩ 1 1 (arC x) rfl hnews (fun u hu => arCs_one [x] u (by simpa [arCs] using hu)) (by unfold maxLen; omega) (by omega) hN
  have ho : RowA w' B v' (l ++ [x]) := by
    unfold RowA
    have e : arCs (l ++ [x]) = arCs l ++ arC x := by simp [arCs]
    rw [e, List.length_append]
    exact h2
  obtain ⟨a, c, rfl, _⟩ := row_shape ho
  exact ⟨a, _, c, w', hr, ho, h3⟩
def RowsOfTo (w : World) (l : List SnV) (e : Ending) (w' : World) : Prop := ∃ v, e = .returned v ∧ RowA w' w.heap.size v l ∧ Below w.heap.size w w'
set_option maxRecDepth 100000 in
set_option maxHeartbeats 1000000 in
theorem rowsOf_ {w : World} {g : Option Addr} {c : Nat} {l : List SnV} (h : l ≠ [] → ∃ b, g = some ⟨b, 0, none⟩ ∧ SnsAt w b l) (hl : l.length ≤ 100000000) :
    Calls Tryz.prog 30 #[.slice g l.length c] w (RowsOfTo w l) := by
  have H := Lib.hid h
  obtain ⟨N, hN⟩ : ∃ N, l.length = N := ⟨_, rfl⟩
  have HN := Lib.hid hN
  unfold RowsOfTo
  rw [hN]
  clear h hN
  go_enter Tryz.func30, Tryz.ntmps30
  go_wp2_with fail
  go_loopw [3, 8] (fun v iv wr => ∃ k : Nat, k ≤ N ∧ iv = .int .i64 k ∧ Hid (RowA wr w.heap.size v (l.take k) ∧ Below w.heap.size w wr)) (fun _ iv _ => N - (intOf iv).toNat)
  case atStart => exact ⟨0, Nat.zero_le _, rfl, World.ownsRow_nil _ _ _ _, Below.refl _ _⟩
  case round =>
    obtain ⟨k, hk, rfl, HR⟩ := hrel
    by_cases hlt : k < N
    · have hkl : k < l.length := by rw [HN.out]; exact hlt
      obtain ⟨b, rfl, hs⟩ := H.out (fun e => by rw [e] at hkl; simp at hkl)
      obtain ⟨y0, y1, y2⟩ := hs k hkl
      have y0 := (HR.out.2.cell (block_lt_of_cell y0)).trans y0
      have y1 := (HR.out.2.cell (block_lt_of_cell y1)).trans y1
      have y2 := (HR.out.2.cell (block_lt_of_cell y2)).trans y2
      have hkI : (k : Int) < (N : Int) := by omega
      obtain ⟨X, hX⟩ : ∃ X, X = l[k] := ⟨_, rfl⟩
      have HX := Lib.hid hX
      rw [← hX] at y0 y1 y2
      clear hX hs
      obtain ⟨xk, xp, xa, xn, xc⟩ := X
      simp only at y0 y1 y2
      obtain ⟨W2, hW2⟩ : ∃ W2, (wr.alloc (.cells #[.string xk, .int .i64 xp, .slice xa xn xc] 105)).alloc (.cells #[.int .i64 xp, .slice xa xn xc] 54) = W2 := ⟨_, rfl⟩
      have hb2 : Below wr.heap.size wr W2 := by rw [← hW2]; exact below_step (below_alloc _ _) (below_alloc _ _)
      have hs2 : (wr.alloc (.cells #[.string xk, .int .i64 xp, .slice xa xn xc] 105)).heap.size = wr.heap.size + 1 := by simp [go_sem]
      have hk2 : W2.heap[wr.heap.size + 1]? = some (.cells #[.int .i64 xp, .slice xa xn xc] 54 (0, 0)) := by
        have := new_blk (wr.alloc (.cells #[.string xk, .int .i64 xp, .slice xa xn xc] 105)) (.cells #[.int .i64 xp, .slice xa xn xc] 54)
        rw [hW2, hs2] at this
        exact this
      have hbw := below_step HR.out.2 hb2
      have hlk : (l.take k).length = k := by rw [List.length_take]; omega
      have hro : RowA W2 w.heap.size _ (l.take k) := row_on HR.out.1 hb2
      obtain ⟨a5, n5, c5, w5, hap, hrow5, hg5⟩ := app_ar (x := ⟨xk, xp, ⟨xa, xn, xc⟩⟩) hro hk2 (by omega) hbw.size
      have HNx : Hid (RowA w5 w.heap.size (.slice a5 n5 c5) (l.take (k + 1)) ∧ Below w.heap.size w w5) := by
        refine ⟨?_, hbw.grown hg5 hbw.size fun q hq => (World.ownsRow.lt hro q hq).1⟩
        rw [List.take_succ_eq_append_getElem hkl, ← HX.out]
        exact hrow5
      clear hb2 hk2 hbw hro hrow5 hg5 hs2 hlk
      go_wp2_with (first
        | (refine Tb.wpList_exec rfl (exec_append rfl rfl rfl hap) ?_; clear hap)
        | fail)
      go_roundw
      case rel => exact ⟨k + 1, by omega, by go_num, HNx.out⟩
      case measure => simp [intOf]; omega
    · obtain rfl : k = N := by omega
      go_wp2_with fail
      go_ret
      refine ⟨_, rfl, ?_, HR.out.2⟩
      have := HR.out.1
      rw [show l.take k = l by rw [← HN.out, List.take_length]] at this
      exact this
end Go.Proofs.YtnfogneanjgppaaGreat

namespace Go.Proofs.YtnfogneanjgppaaGreat
open Go.Lib

def selR (r : Rg) (l : List It) : List It := l.filter fun x => hasR r x.1
theorem beh_up {r : Rg} {x y : ByteArray} (h : ltb x y = true) (hx : behR r x = true) : behR r y = true := by
  unfold behR at hx ⊢
  cases hf : r.hf with
  | false => rfl
  | true =>
    rw [hf] at hx
    simp only [Bool.not_true, Bool.false_or, Bool.or_eq_true, Bool.and_eq_true] at hx ⊢
    left
    rcases hx with q | ⟨q, _⟩
    · exact ltb_trans q h
    · unfold sameb at q
      simp only [Bool.and_eq_true, Bool.not_eq_true'] at q
      rw [ltb_total q.1 q.2] at h
      exact h
theorem ahd_dn {r : Rg} {x y : ByteArray} (h : ltb x y = true) (hy : ahdR r y = true) : ahdR r x = true := by
  unfold ahdR at hy ⊢
  cases hf : r.ht with
  | false => rfl
  | true =>
    rw [hf] at hy
    simp only [Bool.not_true, Bool.false_or, Bool.or_eq_true, Bool.and_eq_true] at hy ⊢
    left
    rcases hy with q | ⟨q, _⟩
    · exact ltb_trans h q
    · unfold sameb at q
      simp only [Bool.and_eq_true, Bool.not_eq_true'] at q
      rw [ltb_total q.1 q.2] at h
      exact h
theorem frP_beh (r : Rg) (hf : r.hf = true) : frP r.f r.pf = fun x => behR r x.1 := by
  funext x
  unfold frP behR
  rw [hf]
  rcases ltb_cases x.1 r.f with q | q | q
  · cases r.pf <;> simp [q, ltb_asymm q, sameb_lt q]
  · rw [q]; cases r.pf <;> simp [ltb_irrefl, sameb_self]
  · cases r.pf <;> simp [q, ltb_asymm q, sameb_gt q]
/-- The first item that does not lie ahead of a range. -/
def lstO (r : Rg) (l : List It) : Option It := l.find? fun x => behR r x.1
theorem lst_first {r : Rg} (hf : r.hf = false) (l : List It) : lstO r l = l.head? := by
  unfold lstO
  cases l with
  | nil => rfl
  | cons x l => rw [List.find?_cons_of_pos (by unfold behR; rw [hf]; rfl)]; rfl
theorem find_split {P : It → Bool} : ∀ l : List It, ∃ j, j ≤ l.length ∧ l.find? P = l[j]? ∧ (∀ x ∈ l.take j, P x = false) ∧ (∀ x, l[j]? = some x → P x = true)
  | [] => ⟨0, Nat.le_refl _, rfl, by simp, by simp⟩
  | a :: l => by
    by_cases h : P a = true
    · exact ⟨0, Nat.zero_le _, by rw [List.find?_cons_of_pos h]; rfl, by simp, fun x hx => by simp at hx; rw [← hx]; exact h⟩
    · obtain ⟨j, h1, h2, h3, h4⟩ := find_split (P := P) l
      refine ⟨j + 1, by simp; omega, by rw [List.find?_cons_of_neg h, h2]; rfl, ?_, fun x hx => h4 x (by simpa using hx)⟩
      intro x hx
      rw [List.take_succ_cons] at hx
      rcases List.mem_cons.1 hx with rfl | hx
      · simpa using h
      · exact h3 x hx
theorem srt_at {l : List It} (hs : Srt l) {i j : Nat} {x y : It} (hij : i < j) (hi : l[i]? = some x) (hj : l[j]? = some y) : ltb x.1 y.1 = true := by
  obtain ⟨h1, e1⟩ := List.getElem?_eq_some_iff.1 hi
  obtain ⟨h2, e2⟩ := List.getElem?_eq_some_iff.1 hj
  have := List.pairwise_iff_getElem.1 hs i j h1 h2 hij
  rw [e1, e2] at this
  exact this
theorem mem_drop_at {l : List It} {j : Nat} {y : It} (h : y ∈ l.drop j) : ∃ i, j ≤ i ∧ l[i]? = some y := by
  obtain ⟨k, hk⟩ := List.getElem?_of_mem h
  rw [List.getElem?_drop] at hk
  exact ⟨j + k, by omega, hk⟩
/-- Where one goes forwards: the items ahead of number j that lie in the range came; those from it on do not lie ahead of it. -/
structure Fo (r : Rg) (l : List It) (j : Nat) : Prop where
  le : j ≤ l.length
  beh : ∀ x ∈ l.drop j, behR r x.1 = true
theorem fo_start {l : List It} (hs : Srt l) (r : Rg) : ∃ j, lstO r l = l[j]? ∧ Fo r l j ∧ selR r (l.take j) = [] := by
  obtain ⟨j, h1, h2, h3, h4⟩ := find_split (P := fun x : It => behR r x.1) l
  refine ⟨j, h2, ⟨h1, fun x hx => ?_⟩, List.filter_eq_nil_iff.2 fun x hx => ?_⟩
  · obtain ⟨i, hi, hx2⟩ := mem_drop_at hx
    rcases Nat.lt_or_ge j i with q | q
    · obtain ⟨y, hy⟩ : ∃ y, l[j]? = some y := ⟨_, List.getElem?_eq_getElem (by have := (List.getElem?_eq_some_iff.1 hx2).1; omega)⟩
      exact beh_up (srt_at hs q hy hx2) (h4 y hy)
    · obtain rfl : i = j := by omega
      exact h4 x hx2
  · unfold hasR; rw [h3 x hx]; simp
theorem sel_snoc {r : Rg} {l : List It} {j : Nat} {x : It} (hx : l[j]? = some x) : selR r (l.take (j + 1)) = if hasR r x.1 then selR r (l.take j) ++ [x] else selR r (l.take j) := by
  unfold selR
  rw [List.take_add_one, hx, List.filter_append]
  simp only [Option.toList]
  by_cases h : hasR r x.1 = true
  · simp [h]
  · simp [h]
theorem Fo.step {r : Rg} {l : List It} {j : Nat} {x : It} (h : Fo r l j) (hx : l[j]? = some x) : Fo r l (j + 1) := by
  have hj := (List.getElem?_eq_some_iff.1 hx).1
  refine ⟨by omega, fun y hy => h.beh y ?_⟩
  rw [← List.drop_drop] at hy
  exact List.mem_of_mem_drop hy
theorem Fo.here {r : Rg} {l : List It} {j : Nat} {x : It} (h : Fo r l j) (hx : l[j]? = some x) (ha : ahdR r x.1 = true) : hasR r x.1 = true := by
  unfold hasR
  rw [ha, h.beh x ?_]
  · rfl
  · have : l.drop j = x :: l.drop (j + 1) := by
      obtain ⟨h1, h2⟩ := List.getElem?_eq_some_iff.1 hx
      rw [← h2, ← List.drop_eq_getElem_cons]
    rw [this]; exact List.mem_cons_self
theorem Fo.stop {r : Rg} {l : List It} {j : Nat} {x : It} (hs : Srt l) (hx : l[j]? = some x) (ha : ahdR r x.1 = false) : selR r (l.take j) = selR r l := by
  conv => rhs; rw [← List.take_append_drop j l]
  unfold selR
  have hnil : (l.drop j).filter (fun x => hasR r x.1) = [] := List.filter_eq_nil_iff.2 fun y hy => by
    obtain ⟨i, hi, hy2⟩ := mem_drop_at hy
    have : ahdR r y.1 = false := by
      rcases Nat.lt_or_ge j i with q | q
      · cases hh : ahdR r y.1 with
        | false => rfl
        | true => rw [ahd_dn (srt_at hs q hx hy2) hh] at ha; cases ha
      · obtain rfl : i = j := by omega
        rw [hx] at hy2; cases hy2; exact ha
    unfold hasR
    rw [this]; simp
  rw [List.filter_append, hnil, List.append_nil]
theorem sel_pre (r : Rg) (l : List It) (j : Nat) : selR r (l.take j) <+: selR r l := by
  refine ⟨selR r (l.drop j), ?_⟩
  unfold selR
  rw [← List.filter_append, List.take_append_drop]
theorem next_at {l : List It} (hs : Srt l) {j : Nat} {x : It} (hx : l[j]? = some x) : l.find? (frP x.1 true) = l[j + 1]? := by
  obtain ⟨i, h1, h2, h3, h4⟩ := find_split (P := frP x.1 true) l
  rw [h2]
  have hj := (List.getElem?_eq_some_iff.1 hx).1
  congr 1
  have a1 : ¬ i ≤ j := fun q => by
    obtain ⟨y, hy⟩ : ∃ y, l[i]? = some y := ⟨_, List.getElem?_eq_getElem (by omega)⟩
    have := h4 y hy
    simp only [frP, if_true] at this
    rcases Nat.lt_or_ge i j with q2 | q2
    · rw [ltb_asymm (srt_at hs q2 hy hx)] at this; cases this
    · obtain rfl : i = j := by omega
      rw [hx] at hy; cases hy
      rw [ltb_irrefl] at this; cases this
  have a2 : ¬ j + 1 < i := fun q => by
    obtain ⟨y, hy⟩ : ∃ y, l[j + 1]? = some y := ⟨_, List.getElem?_eq_getElem (by omega)⟩
    have hm : y ∈ l.take i := by
      refine List.mem_of_getElem? (i := j + 1) ?_
      rw [List.getElem?_take, if_pos q]; exact hy
    have := h3 y hm
    simp only [frP, if_true] at this
    rw [srt_at hs (Nat.lt_succ_self j) hx hy] at this
    cases this
  omega
end Go.Proofs.YtnfogneanjgppaaGreat

namespace Go.Proofs.YtnfogneanjgppaaGreat
open Go.RowKit Go.Sort

/-- A range, and an end, as values. -/
def rgV (r : Rg) : Value := .agg #[.string r.f, .string r.t, .bool r.hf, .bool r.ht, .bool r.pf, .bool r.pt]
/-- What a walk asks of two texts. -/
def Ord3 (a b : ByteArray) (x y z : Bool) : Prop := Op.bytesLess a.toList b.toList = x ∧ Op.bytesLess b.toList a.toList = y ∧ (a.toList == b.toList) = z ∧ (b.toList == a.toList) = z ∧ ltb a b = x ∧ ltb b a = y ∧ sameb a b = z ∧ sameb b a = z
theorem ord3 (a b : ByteArray) : Ord3 a b true false false ∨ Ord3 a b false false true ∨ Ord3 a b false true false := by
  have ne : ∀ {a b : ByteArray}, a ≠ b → (a.toList == b.toList) = false := fun {a b} h => by
    simp only [beq_eq_false_iff_ne, ne_eq]
    exact fun e => h (toList_inj e)
  rcases ltb_cases a b with h | rfl | h
  · exact .inl ⟨h, ltb_asymm h, ne (ltb_ne h), ne (Ne.symm (ltb_ne h)), h, ltb_asymm h, sameb_lt h, sameb_gt h⟩
  · exact .inr (.inl ⟨less_irrefl _, less_irrefl _, by simp, by simp, ltb_irrefl _, ltb_irrefl _, sameb_self _, sameb_self _⟩)
  · exact .inr (.inr ⟨ltb_asymm h, h, ne (Ne.symm (ltb_ne h)), ne (ltb_ne h), ltb_asymm h, h, sameb_gt h, sameb_lt h⟩)
set_option maxRecDepth 100000 in
theorem ahd_ (r : Rg) (k : ByteArray) (w : World) : Calls Tryz.prog 119 #[rgV r, .string k] w fun e w' => e = .returned (.bool (ahdR r k)) ∧ Below w.heap.size w w' := by
  obtain ⟨f, t, hf, ht, pf, po⟩ := r
  have HB := Lib.hid (below_alloc w (.cells #[.string f, .string t, .bool hf, .bool ht, .bool pf, .bool po] 46))
  obtain ⟨R, hR⟩ : ∃ R, R = ahdR ⟨f, t, hf, ht, pf, po⟩ k := ⟨_, rfl⟩
  have HR := Lib.hid hR
  rw [← hR]
  clear hR
  unfold rgV
  rcases ord3 k t with ⟨h1, h2, h3, _, h5, _, h6, _⟩ | ⟨h1, h2, h3, _, h5, _, h6, _⟩ | ⟨h1, h2, h3, _, h5, _, h6, _⟩
  all_goals (
    cases ht <;> cases po
    all_goals (
      go_enter Tryz.func119, Tryz.ntmps119
      go_wp2_with fail
      go_ret
      exact ⟨by rw [HR.out]; simp [ahdR, h5, h6], HB.out⟩))
/-- A range in memory: its six cells. -/
def RgAt (w : World) (b : Nat) (r : Rg) : Prop := w.cell? ⟨b, 0, none⟩ = some (.string r.f) ∧ w.cell? ⟨b, 1, none⟩ = some (.string r.t) ∧ w.cell? ⟨b, 2, none⟩ = some (.bool r.hf) ∧ w.cell? ⟨b, 3, none⟩ = some (.bool r.ht) ∧ w.cell? ⟨b, 4, none⟩ = some (.bool r.pf) ∧ w.cell? ⟨b, 5, none⟩ = some (.bool r.pt)
theorem RgAt.on {w w' : World} {b N : Nat} {r : Rg} (h : RgAt w b r) (hb : Below N w w') (hN : b < N) : RgAt w' b r := by
  obtain ⟨h0, h1, h2, h3, h4, h5⟩ := h
  exact ⟨(hb.cell (p := ⟨b, 0, none⟩) hN).trans h0, (hb.cell (p := ⟨b, 1, none⟩) hN).trans h1, (hb.cell (p := ⟨b, 2, none⟩) hN).trans h2, (hb.cell (p := ⟨b, 3, none⟩) hN).trans h3, (hb.cell (p := ⟨b, 4, none⟩) hN).trans h4, (hb.cell (p := ⟨b, 5, none⟩) hN).trans h5⟩
end Go.Proofs.YtnfogneanjgppaaGreat

namespace Go.Proofs.YtnfogneanjgppaaGreat
open Go.RowKit Go.Sort

section
variable {P : Program} {l : List Oper} {Q : Exit → Act → World → Prop} {md : Region.Mode} {A B C : World → Prop} {e1 e2 : Nat}
theorem blkKeep {V w' : World} {p : Nat} {o : Obj} (hb : Below V.heap.size V w') (h : V.heap[p]? = some o) : w'.heap[p]? = some o := (hb.block p (blk_lt h)).trans h
theorem cell_same {V V' : World} {b o : Nat} (h : V'.heap[b]? = V.heap[b]?) : V'.cell? ⟨b, o, none⟩ = V.cell? ⟨b, o, none⟩ := by unfold World.cell?; simp only [h]
end
end Go.Proofs.YtnfogneanjgppaaGreat
