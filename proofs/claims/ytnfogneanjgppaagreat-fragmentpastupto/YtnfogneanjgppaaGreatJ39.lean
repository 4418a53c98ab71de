/- A case among the arguments opened; what the bound on the bulk gives; The walk of FragmentPast. -/
import Derived.Test.YtnfogneanjgppaaGreatJ38
import Derived.Deep.CutBlock
namespace Go.Proofs.YtnfogneanjgppaaGreat.Lt
open Go.ChangeShapes Go.WideShapes Go.ChangeAt Go.RowKit Go.Joins

set_option maxRecDepth 100000 in
theorem open_labs {H : Type} {enc : TypeId × Value → H} {W : World} {v : Value} {d : DataW H} {p : List MemPlace} {fuel : Nat}
    (h' : DataW.trod enc Tryz.prog W 0 (fun _ => true) true fuel 22 [v] = some (d, p)) :
    ∃ (a : Option Addr) (ls : List Lab) (c : Nat), v = .slice a ls.length c ∧ LabsIn W a ls ∧ allW ls ∧ (ls.length = 0 → a = none → c = 0) ∧ ((d = .nil ∧ ls = []) ∨ ∃ elems spare, d = .slice elems spare ∧ elems.length = ls.length) := by
  rcases Deep.open_slice_pairs Tryz.underlying22 Tryz.underlying70 cellsL rfl rfl (by kernel_rfl) (by kernel_rfl) h' with ⟨e1, e2⟩ | ⟨ad, len', cap', m, n, V0, V1, D0, D1, P0, P1, e1, _, hl, _, hm, e2, hc⟩
  · simp only [List.cons.injEq, and_true] at e1
    subst e1
    simp only [Prod.mk.injEq] at e2
    exact ⟨none, [], 0, rfl, fun i hi => by simp at hi, fun x hx => by simp at hx, fun _ _ => rfl, .inl ⟨e2.1, rfl⟩⟩
  · simp only [List.cons.injEq, and_true] at e1
    subst e1
    simp only [if_true] at hm
    subst hm
    simp only [Prod.mk.injEq] at e2
    have each : ∀ i, i < len' → V0 i = .int .i64 (intOf (V0 i)) ∧ V1 i = .int .u32 ((intOf (V1 i)).toNat : Nat) ∧ okW (intOf (V0 i), (intOf (V1 i)).toNat) := by
      intro i hi
      obtain ⟨_, _, t0, t1⟩ := hc i (by omega)
      obtain ⟨x, f0, _, wx⟩ := DataW.trod_int Tryz.underlying3 t0
      obtain ⟨y, f1, _, wy⟩ := DataW.trod_int Tryz.underlying68 t1
      simp at f0 f1
      have by_ := bounds_u32 wy
      have bx := bounds_i64 wx
      rw [f0, f1]
      refine ⟨rfl, ?_, ?_⟩
      · simp only [intOf]
        congr 1
        omega
      · simp only [okW, intOf]
        omega
    have hlen : ((List.range len').map fun i => (intOf (V0 i), (intOf (V1 i)).toNat)).length = len' := by simp
    refine ⟨some ad, (List.range len').map fun i => (intOf (V0 i), (intOf (V1 i)).toNat), m, by rw [hlen], fun i hi => ?_, fun x hx => ?_, fun _ hh => (by cases hh), .inr ⟨_, _, e2.1, by simp⟩⟩
    · rw [hlen] at hi
      obtain ⟨k1, k2, _, _⟩ := hc i (by omega)
      obtain ⟨v0, v1, _⟩ := each i hi
      obtain ⟨b, o, sp⟩ := ad
      have hsp : sp = none := by
        obtain ⟨k0, _⟩ := hc 0 (by omega)
        cases sp with
        | none => rfl
        | some x =>
          exfalso
          rw [show (⟨b, o, some x⟩ : Addr).add (0 * 2) = ⟨b, o, some x⟩ from rfl] at k0
          unfold World.cell? at k0
          split at k0
          · simp at k0
          · cases k0
      subst hsp
      rw [Addr.add_lit] at k1 k2
      rw [lab_range _ _ hi]
      refine ⟨b, o, rfl, k1.trans (congrArg some v0), ?_⟩
      rw [Nat.add_assoc]
      exact k2.trans (congrArg some v1)
    · obtain ⟨i, hi, rfl⟩ := List.mem_map.1 hx
      exact (each i (List.mem_range.1 hi)).2.2

end Go.Proofs.YtnfogneanjgppaaGreat.Lt
namespace Go.Proofs.YtnfogneanjgppaaGreat.Tb
open Go.ChangeShapes Go.WideShapes Go.ChangeAt Go.RowKit

set_option maxRecDepth 100000 in
theorem open_tabs {H : Type} {enc : TypeId × Value → H} {W : World} {v : Value} {d : DataW H} {p : List MemPlace} {fuel : Nat}
    (h' : DataW.trod enc Tryz.prog W 0 (fun _ => true) true fuel 23 [v] = some (d, p)) :
    ∃ (a : Option Addr) (ts : List TV) (c : Nat), v = .slice a ts.length c ∧ TabsIn W a ts ∧ ColsAll W ts ∧ ((d = .nil ∧ ts = []) ∨ ∃ ds spare, d = .slice ds spare ∧ ds.length = ts.length ∧ ∀ i (h : i < ts.length) (h2 : i < ds.length), IsDat ts[i] ds[i]) := by
  rcases Deep.open_slice Tryz.underlying23 h' with ⟨e1, e2⟩ | ⟨ad, len', cap', m, n, D, Pl, e1, _, hl, hcm, hm, e2, hc⟩
  · simp only [List.cons.injEq, and_true] at e1
    subst e1
    simp only [Prod.mk.injEq] at e2
    exact ⟨none, [], 0, rfl, tabsIn_nil _ _, fun i hi => (by simp at hi), .inl ⟨e2.1, rfl⟩⟩
  · simp only [List.cons.injEq, and_true] at e1
    subst e1
    simp only [if_true] at hm
    subst hm
    simp only [Prod.mk.injEq] at e2
    have each : ∀ i, i < m → ∃ x : TV, IsDat x (D i) ∧ ColsIn W x.a x.cs ∧ x.cs.length ≤ x.c ∧ (x.a = none → x.c = 0) ∧ ∃ b o, ad = ⟨b, o, none⟩ ∧ W.cell? ⟨b, o + i * 2, none⟩ = some (.string x.nm) ∧ W.cell? ⟨b, o + i * 2 + 1, none⟩ = some (.slice x.a x.cs.length x.c) := by
      intro i hi
      obtain ⟨cs', h1, h2⟩ := hc i hi
      rw [cellsT] at h1
      obtain ⟨_, hlen, hcell⟩ := World.cells?_some h1
      obtain ⟨xs, k, _, hxy, _, hxl, hf⟩ := DataW.trod_struct Tryz.underlying44 h2
      match xs, hxl, cs', hlen with
      | [y0, y1], _, [v0, v1], _ =>
        have c9 : Tryz.prog.cellsOf 9 = 1 := by kernel_rfl
        have c22 : Tryz.prog.cellsOf 42 = 1 := by kernel_rfl
        have g0 := hf 0 _ rfl
        have g1 := hf 1 _ rfl
        simp [c9, c22] at g0 g1
        obtain ⟨s0, e0, hy0, _⟩ := DataW.trod_string Tryz.underlying9 g0
        obtain ⟨ca, cs, ct, ec, hin, hnil, hcap, _, hcase⟩ := open_cols (d := y1.1) (p := y1.2) g1
        simp at e0
        subst e0 ec
        obtain ⟨b, o, sp⟩ := ad
        have k0 := hcell 0 (by simp)
        have k1 := hcell 1 (by simp)
        have hsp : sp = none := by
          obtain ⟨cs0, z1, _⟩ := hc 0 (by omega)
          rw [cellsT] at z1
          obtain ⟨_, zl, zc⟩ := World.cells?_some z1
          have z0 := zc 0 (by omega)
          exact plain_addr (b := b) (o := o) (z0.trans (List.getElem?_eq_getElem (by omega)))
        subst hsp
        simp only [Addr.add_lit] at k0 k1
        simp only [Prod.mk.injEq] at hxy
        refine ⟨⟨s0, ca, ct, cs⟩, ⟨y1.1, ?_, hcase⟩, hin, hcap, hnil, b, o, rfl, ?_, ?_⟩
        · have := hxy.1
          simp only [List.map_cons, List.map_nil] at this
          rw [this, hy0]
        · simpa using k0
        · simpa [Nat.add_assoc] using k1
    obtain ⟨f, hf⟩ := @Deep.choose_lt TV ⟨⟨⟨#[]⟩, none, 0, []⟩⟩ m _ each
    have hlen : ((List.range len').map f).length = len' := by simp
    refine ⟨some ad, (List.range len').map f, m, by rw [hlen], ?_, ?_, .inr ⟨_, _, e2.1, by simp, ?_⟩⟩
    · intro i hi
      rw [hlen] at hi
      obtain ⟨_, _, _, _, b, o, rfl, h1, h2⟩ := hf i (by omega)
      refine ⟨b, o, rfl, ?_, ?_⟩
      · simp only [List.getElem_map, List.getElem_range]; exact h1
      · simp only [List.getElem_map, List.getElem_range]; exact h2
    · intro i hi
      rw [hlen] at hi
      obtain ⟨_, h1, h2, h3, _⟩ := hf i (by omega)
      simp only [List.getElem_map, List.getElem_range]
      exact ⟨h1, h2, h3⟩
    · intro i hi h2
      rw [hlen] at hi
      have := (hf i (by omega)).1
      simp only [List.getElem_map, List.getElem_range]
      exact this

end Go.Proofs.YtnfogneanjgppaaGreat.Tb
namespace Go.Proofs.YtnfogneanjgppaaGreat
open Go.ChangeShapes Go.WideShapes Go.ChangeAt Go.RowKit

/-! ### Bulk -/
theorem bulk_pos {H : Type} (d : DataW H) : 1 ≤ Rows.uptoBulk d := by
  cases d with
  | lit l => cases l <;> simp [Rows.uptoBulk]
  | _ => simp [Rows.uptoBulk]
theorem bulk_num {H : Type} : ∀ (l : List (DataW H)), l.length ≤ Rows.uptoBulkAll l
  | [] => Nat.zero_le _
  | d :: l => by
    have h1 := bulk_num l
    have h2 := bulk_pos d
    simp only [Rows.uptoBulkAll, List.length_cons]; omega
theorem bulk_val {H : Type} : ∀ vs : List Rw.Val, Rw.wtV vs ≤ Rows.uptoBulkAll (vs.map (Rw.datV (H := H)))
  | [] => Nat.zero_le _
  | v :: vs => by
    have := bulk_val (H := H) vs
    have e : v.t.size = v.t.data.toList.length := by rw [Tb.size_lst]; rfl
    simp only [List.map_cons, Rows.uptoBulkAll, Rw.datV, Rows.uptoBulk, Rw.wtV]
    omega
theorem bulk_w {H : Type} {x : WV} {d : DataW H} (h : IsW x d) : Rw.wtV x.vs + 3 ≤ Rows.uptoBulk d := by
  obtain ⟨dv, rfl, ⟨rfl, e⟩ | ⟨spare, rfl⟩⟩ := h
  · rw [e]; simp only [Rows.uptoBulk, Rows.uptoBulkAll, Rw.wtV]; omega
  · have := bulk_val (H := H) x.vs
    simp only [Rows.uptoBulk, Rows.uptoBulkAll]; omega
theorem bulk_wl {H : Type} : ∀ (ws : List WV) (es : List (DataW H)), es.length = ws.length → (∀ i (h : i < ws.length) (h2 : i < es.length), IsW ws[i] es[i]) → 3 * ws.length ≤ Rows.uptoBulkAll es ∧ ∀ x ∈ ws, Rw.wtV x.vs ≤ Rows.uptoBulkAll es
  | [], es, _, _ => ⟨Nat.zero_le _, fun _ h => by cases h⟩
  | x :: ws, [], h, _ => by simp at h
  | x :: ws, d :: es, h, hi => by
    have h0 := bulk_w (hi 0 (by simp) (by simp))
    simp only [List.getElem_cons_zero] at h0
    obtain ⟨h1, h2⟩ := bulk_wl ws es (by simpa using h) fun i a b => by have := hi (i + 1) (by simpa using a) (by simpa using b); simpa using this
    simp only [Rows.uptoBulkAll, List.length_cons]
    refine ⟨by omega, fun y hy => ?_⟩
    rcases List.mem_cons.1 hy with rfl | hy
    · omega
    · have := h2 y hy; omega
theorem bulk_ws {H : Type} {ws : List WV} {d : DataW H} (h : IsWs ws d) : 3 * ws.length ≤ Rows.uptoBulk d ∧ ∀ x ∈ ws, Rw.wtV x.vs ≤ Rows.uptoBulk d := by
  rcases h with ⟨_, rfl⟩ | ⟨es, spare, rfl, hl, hi⟩
  · exact ⟨Nat.zero_le _, fun _ h => by cases h⟩
  · obtain ⟨h1, h2⟩ := bulk_wl ws es hl hi
    simp only [Rows.uptoBulk]
    exact ⟨by omega, fun x hx => by have := h2 x hx; omega⟩
theorem bulk_cm {H : Type} {y : CmV} {d : DataW H} (h : IsCm y d) : 3 * y.ws.length ≤ Rows.uptoBulk d ∧ ∀ x ∈ y.ws, Rw.wtV x.vs ≤ Rows.uptoBulk d := by
  obtain ⟨dw, rfl, hw⟩ := h
  obtain ⟨h1, h2⟩ := bulk_ws hw
  simp only [Rows.uptoBulk, Rows.uptoBulkAll]
  exact ⟨by omega, fun x hx => by have := h2 x hx; omega⟩
theorem bulk_cl {H : Type} : ∀ (cs : List CmV) (es : List (DataW H)), es.length = cs.length → (∀ i (h : i < cs.length) (h2 : i < es.length), IsCm cs[i] es[i]) → 3 * wrN cs ≤ Rows.uptoBulkAll es ∧ ∀ y ∈ cs, ∀ x ∈ y.ws, Rw.wtV x.vs ≤ Rows.uptoBulkAll es
  | [], es, _, _ => ⟨Nat.zero_le _, fun _ h => by cases h⟩
  | x :: ws, [], h, _ => by simp at h
  | y :: cs, d :: es, h, hi => by
    have h0 := bulk_cm (hi 0 (by simp) (by simp))
    simp only [List.getElem_cons_zero] at h0
    obtain ⟨h1, h2⟩ := bulk_cl cs es (by simpa using h) fun i a b => by have := hi (i + 1) (by simpa using a) (by simpa using b); simpa using this
    have e : wrN (y :: cs) = y.ws.length + wrN cs := by simp [wrN]
    rw [e]
    simp only [Rows.uptoBulkAll]
    refine ⟨by omega, fun z hz x hx => ?_⟩
    rcases List.mem_cons.1 hz with rfl | hz
    · have := h0.2 x hx; omega
    · have := h2 z hz x hx; omega
theorem bulk_cms {H : Type} {cs : List CmV} {d : DataW H} (h : IsCms cs d) : 3 * wrN cs ≤ Rows.uptoBulk d ∧ ∀ y ∈ cs, ∀ x ∈ y.ws, Rw.wtV x.vs ≤ Rows.uptoBulk d := by
  rcases h with ⟨_, rfl⟩ | ⟨es, spare, rfl, hl, hi⟩
  · exact ⟨Nat.zero_le _, fun _ h => by cases h⟩
  · obtain ⟨h1, h2⟩ := bulk_cl cs es hl hi
    simp only [Rows.uptoBulk]
    exact ⟨by omega, fun y hy x hx => by have := h2 y hy x hx; omega⟩
theorem bulk_labs {H : Type} {d : DataW H} {ls : List Lt.Lab} (h : (d = .nil ∧ ls = []) ∨ ∃ elems spare, d = .slice elems spare ∧ elems.length = ls.length) : ls.length ≤ Rows.uptoBulk d := by
  rcases h with ⟨_, rfl⟩ | ⟨es, spare, rfl, hl⟩
  · simp
  · have := bulk_num es
    simp only [Rows.uptoBulk]; omega
theorem bulk_tab {H : Type} {t : Tb.TV} {d : DataW H} (h : Tb.IsDat t d) : t.cs.length ≤ Rows.uptoBulk d := by
  obtain ⟨d1, rfl, ⟨rfl, e⟩ | ⟨spare, rfl⟩⟩ := h
  · rw [e]; simp
  · have := bulk_num (t.cs.map (Tb.datC (H := H)))
    rw [List.length_map] at this
    simp only [Rows.uptoBulk, Rows.uptoBulkAll]; omega
theorem bulk_mem {H : Type} {d : DataW H} : ∀ {l : List (DataW H)}, d ∈ l → Rows.uptoBulk d ≤ Rows.uptoBulkAll l
  | x :: l, h => by
    simp only [Rows.uptoBulkAll]
    rcases List.mem_cons.1 h with rfl | h
    · omega
    · have := bulk_mem h; omega
theorem bulk_tabs {H : Type} {d : DataW H} {ts : List Tb.TV} (h : (d = .nil ∧ ts = []) ∨ ∃ es spare, d = .slice es spare ∧ es.length = ts.length ∧ ∀ i (h : i < ts.length) (h2 : i < es.length), Tb.IsDat ts[i] es[i]) : ts.length ≤ Rows.uptoBulk d ∧ ∀ t ∈ ts, t.cs.length ≤ Rows.uptoBulk d := by
  rcases h with ⟨_, rfl⟩ | ⟨es, spare, rfl, hl, hi⟩
  · exact ⟨by simp, fun _ h => by cases h⟩
  · have := bulk_num es
    simp only [Rows.uptoBulk]
    refine ⟨by omega, fun t ht => ?_⟩
    obtain ⟨i, hi2, rfl⟩ := List.getElem_of_mem ht
    have h1 := bulk_tab (hi i hi2 (by omega))
    have h2 := bulk_mem (List.getElem_mem (show i < es.length by omega))
    omega
/-! ### The case -/
theorem cellsCase : Tryz.prog.cellsOf 25 = 2 := by kernel_rfl
set_option maxRecDepth 100000 in
theorem open_case {H : Type} {enc : TypeId × Value → H} {W : World} {base : Nat} {v : Value} {d : DataW H} {p : List MemPlace}
    (hv : Value.okWide Tryz.prog W .any base 25 v) (h : DataW.Trod enc Tryz.prog W 0 (fun _ => true) true 25 v d p) :
    ∃ (la ta : Option Addr) (ls : List Lt.Lab) (ts : List Tb.TV) (lc tc : Nat), v = .agg #[.slice la ls.length lc, .slice ta ts.length tc] ∧ Lt.LabsIn W la ls ∧ Lt.allW ls ∧ (la = none → lc = 0) ∧ Tb.TabsIn W ta ts ∧ Tb.ColsAll W ts ∧
      ls.length ≤ Rows.uptoBulk d ∧ ts.length ≤ Rows.uptoBulk d ∧ ∀ t ∈ ts, t.cs.length ≤ Rows.uptoBulk d := by
  obtain ⟨cells, rfl, hsz⟩ := okWide_struct Tryz.underlying25 hv
  obtain ⟨v0, v1, rfl⟩ := Tb.array2 (hsz.trans cellsCase)
  obtain ⟨fuel, h⟩ := h
  obtain ⟨xs, k, _, hxy, _, hxl, hf⟩ := DataW.trod_struct Tryz.underlying25 h
  match xs, hxl with
  | [y0, y1], _ =>
    have cL : Tryz.prog.cellsOf 22 = 1 := by kernel_rfl
    have cT : Tryz.prog.cellsOf 23 = 1 := by kernel_rfl
    have g0 := hf 0 _ rfl
    have g1 := hf 1 _ rfl
    simp [cL, cT, Value.cells] at g0 g1
    obtain ⟨la, ls, lc, rfl, hl1, hl2, hl3, hl4⟩ := Lt.open_labs (d := y0.1) (p := y0.2) g0
    obtain ⟨ta, ts, tc, rfl, ht1, ht2, ht3⟩ := Tb.open_tabs (d := y1.1) (p := y1.2) g1
    simp at hxy
    have b1 := bulk_labs hl4
    obtain ⟨b2, b3⟩ := bulk_tabs ht3
    refine ⟨la, ta, ls, ts, lc, tc, rfl, hl1, hl2, fun e => ?_, ht1, ht2, ?_, ?_, fun t ht => ?_⟩
    · refine hl3 (Nat.eq_zero_of_not_pos fun h0 => ?_) e
      obtain ⟨_, _, e2, _⟩ := hl1 0 h0
      rw [e] at e2; cases e2
    all_goals (rw [hxy.1]; simp only [Rows.uptoBulk, Rows.uptoBulkAll])
    · omega
    · omega
    · have := b3 t ht; omega
end Go.Proofs.YtnfogneanjgppaaGreat

namespace Go.Proofs.YtnfogneanjgppaaGreat
open Go.RowKit Go.Sort Go.Maps

set_option maxRecDepth 100000 in
set_option maxHeartbeats 8000000 in
theorem past_walk {w : World} {la ta ca cb : Option Addr} {lc tc cc cd : Nat} {ls : List Lt.Lab} {ts : List Tb.TV} {cl cm : List CmV}
    (hl : Lt.LabsIn w la ls) (hln : la = none → lc = 0) (hlw : Lt.allW ls) (hll : ls.length * 16 ≤ 140737488355328) (ht : Tb.TabsIn w ta ts) (hc : Tb.ColsAll w ts) (htl : ts.length * 40 ≤ 140737488351232) (hcl : ∀ t ∈ ts, t.cs.length * 32 ≤ 140737488355328)
    (h1 : CmsIn w ca cl) (h2 : CmsIn w cb cm) (o1 : ∀ y ∈ cl, y.Ok) (o2 : ∀ y ∈ cm, y.Ok) (hn : wrN cl + wrN cm ≤ 800000) :
    Calls Tryz.prog 3 #[.agg #[.slice la ls.length lc, .slice ta ts.length tc], .slice ca cl.length cc, .slice cb cm.length cd] w fun e w' => e = .returned (.bool true) ∧ Below w.heap.size w w' := by
  obtain ⟨W1, hW1⟩ : ∃ W1, w.alloc (.cells #[.slice la ls.length lc, .slice ta ts.length tc] 25) = W1 := ⟨_, rfl⟩
  have hb1 : Below w.heap.size w W1 := by rw [← hW1]; exact below_alloc _ _
  have HB1 := Lib.hid hb1
  have hk1 : W1.heap[w.heap.size]? = some (.cells #[.slice la ls.length lc, .slice ta ts.length tc] 25 (0, 0)) := by rw [← hW1]; exact new_blk _ _
  have c0 : W1.cell? ⟨w.heap.size, 0, none⟩ = some (.slice la ls.length lc) := cell_of hk1 rfl
  have c1 : W1.cell? ⟨w.heap.size, 1, none⟩ = some (.slice ta ts.length tc) := cell_of hk1 rfl
  have HM := Lib.hid (made_ (lc := lc) (tc := tc) (hl.on hb1) hln hlw hll (ht.on hb1) (hc.on hb1) htl hcl)
  have HIn := Lib.hid (And.intro (h1.on hb1) (And.intro (h2.on hb1) (ht.on hb1)))
  have HOk := Lib.hid (And.intro o1 (And.intro o2 hn))
  have HC0 := Lib.hid (And.intro c0 c1)
  unfold MadeTo at HM
  obtain ⟨NL, hNL⟩ : ∃ N, ls.length = N := ⟨_, rfl⟩
  obtain ⟨NT, hNT⟩ : ∃ N, ts.length = N := ⟨_, rfl⟩
  obtain ⟨N1, hN1⟩ : ∃ N, cl.length = N := ⟨_, rfl⟩
  obtain ⟨N2, hN2⟩ : ∃ N, cm.length = N := ⟨_, rfl⟩
  have HNs := Lib.hid (And.intro hNL (And.intro hNT (And.intro hN1 hN2)))
  rw [hNL] at c0 hW1 hll HC0
  rw [hNT] at c1 hW1 htl HC0
  rw [hNL, hNT] at HM
  rw [hNL, hNT, hN1, hN2]
  clear hl hln hlw ht hc hcl h1 h2 o1 o2 hn hb1 hk1 hNL hNT hN1 hN2
  go_enter Tryz.func3, Tryz.ntmps3
  go_wp2_with fail
  refine HM.out.mono ?_
  rintro e w2 ⟨hb2, ⟨ps, us, rfl, hfg, hus, hls, _⟩ | ⟨rfl, _⟩⟩
  rotate_left
  · clear HM HIn HOk HNs hW1
    have c1 := (hb2.cell (block_lt_of_cell HC0.out.2)).trans HC0.out.2
    go_wp2_with fail
    refine (sure_ _).mono ?_
    rintro e w3 ⟨rfl, hb3⟩
    have HE := Lib.hid (below_step (below_step HB1.out hb2) hb3)
    clear hb3
    go_wp2_with fail
    go_ret
    exact ⟨rfl, HE.out⟩
  by_cases h0 : NT = 0
  · subst h0
    clear HM HIn HOk HNs hW1
    have c1 := (hb2.cell (block_lt_of_cell HC0.out.2)).trans HC0.out.2
    go_wp2_with fail
    refine (sure_ _).mono ?_
    rintro e w3 ⟨rfl, hb3⟩
    have HE := Lib.hid (below_step (below_step HB1.out hb2) hb3)
    clear hb3
    go_wp2_with fail
    go_ret
    exact ⟨rfl, HE.out⟩
  have hne : ((NT : Int) == 0) = false := by simp; omega
  have c1 := (hb2.cell (block_lt_of_cell HC0.out.2)).trans HC0.out.2
  have HRu : Hid (Ru W1 (fun _ => False) NL ps (fun i => Lt.belowL ls i) us (fun _ _ => []) (fun _ => 0) (wrN (cl.take 0)) 0 w2) := ru_made hb2 hfg
  have HUs := Lib.hid (And.intro hus hls)
  have HZ := Lib.hid h0
  clear HM hb2 hfg hus hls hW1 h0
  go_upto_block 0 with fail
  go_cut [8] from 30 to 52 (fun _ wx => Hid (∃ k, k ≤ 20 ∧ Ru W1 (fun _ => False) NL ps (fun i => Lt.belowL ls i) us (fun _ _ => []) (fun _ => 0) (wrN (cl.take k)) k wx))
  case first =>
    go_wp2_with fail
    go_loopw [8] (fun iv wr => ∃ k : Nat, k ≤ N1 ∧ k ≤ 20 ∧ iv = .int .i64 k ∧ Hid (Ru W1 (fun _ => False) NL ps (fun i => Lt.belowL ls i) us (fun _ _ => []) (fun _ => 0) (wrN (cl.take k)) k wr)) (fun iv _ => N1 - (intOf iv).toNat)
    case atStart => exact ⟨0, Nat.zero_le _, Nat.zero_le _, rfl, HRu⟩
    case round =>
      obtain ⟨k, hk, hk20, rfl, HR⟩ := hrel
      clear HRu
      by_cases ha : k < N1
      · have ha' : (k : Int) < (N1 : Int) := by omega
        by_cases hb : k < 20
        · have hb' : (k : Int) < 20 := by omega
          have hkl : k < cl.length := by rw [HNs.out.2.2.1]; exact ha
          obtain ⟨b, o, rfl, y0, y1, hw⟩ := (HIn.out.1.on HR.out.below) k hkl
          have hok := HOk.out.1 _ (List.getElem_mem hkl)
          have hS := wrN_succ hkl
          have hbd : wrN (cl.take (k + 1)) ≤ 800000 := by have := wrN_take cl (k + 1); have := HOk.out.2.2; omega
          unfold CmV.Ok at hok
          generalize cl[k].lab = lab at *
          generalize cl[k].a = xa at *
          generalize cl[k].c = xc at *
          generalize cl[k].ws = ws at *
          obtain ⟨M, hM⟩ : ∃ M, ws.length = M := ⟨_, rfl⟩
          have HG := Lib.hid (give_at (c := xc) (hw.on (below_drew wr)) hok hM (by omega))
          have HAp : Hid (∀ (V1 : World) (ga : Option Addr) (gc : Nat) (gs : List WV), gs.length = M → (∀ x ∈ gs, x.Ok) → WrsIn V1 ga gs → Below wr.heap.size wr V1 → Calls Tryz.prog 7 #[.pointer (some ⟨ps, 0, none⟩), .int .i64 lab, .slice ga M gc] V1 fun e w' => ∃ v, e = .returned v ∧ Ru W1 (fun _ => False) NL ps (fun i => Lt.belowL ls i) us (fun _ _ => []) (fun _ => 0) (wrN (cl.take (k + 1))) (k + 1) w') := fun V1 ga gc gs h1 h2 h3 h4 => by
            rw [← h1]
            have := ru_step HR.out h4 lab (gc := gc) h3 h2 (by omega) (by omega)
            rw [hS, hM, ← h1]
            exact this
          have F5 : Hid (∀ V, Below wr.heap.size wr V → V.cell? ⟨b, o + k * 2, none⟩ = some (.int .i64 lab)) := fun V hV => (hV.cell (block_lt_of_cell y0)).trans y0
          have F10 : Hid (∀ V, Below wr.heap.size wr V → V.cell? ⟨b, o + k * 2 + 1, none⟩ = some (.slice xa M xc)) := fun V hV => by
            rw [← hM]; exact (hV.cell (block_lt_of_cell y1)).trans y1
          clear y0 y1 hw hok hS hbd hM hkl
          go_upto_region 7 with fail
          refine wp_region_noPanic ?_
          refine region_ph (A := fun _ => True) (e1 := 12) (B := (fun V => Below wr.heap.size wr V)) (e2 := 12) (C := (fun _ => True)) (by kernel_rfl) (⟨trivial, fun _ => below_drew wr, fun _ => trivial⟩) (fun hSt => ?_)
          refine take_ph 0 (.pointer (some ⟨ps, 0, none⟩)) [] rfl (by kernel_rfl) (fun _ _ _ h => h) (Or.inl ⟨by rfl, ?_⟩) hSt (fun hSn => ?_)
          · intro V _; go_simp
          clear hSt; rename Ph _ _ _ _ _ _ _ => hSt
          simp only [Act.put, List.setIfInBounds_toArray, List.set_cons_zero, List.set_cons_succ]
          refine take_ph 1 (.slice (some ⟨b, o, none⟩) N1 cc) [] rfl (by kernel_rfl) (fun _ _ _ h => h) (Or.inl ⟨by rfl, ?_⟩) hSt (fun hSn => ?_)
          · intro V _; go_simp
          clear hSt; rename Ph _ _ _ _ _ _ _ => hSt
          simp only [Act.put, List.setIfInBounds_toArray, List.set_cons_zero, List.set_cons_succ]
          refine take_ph 2 (.int .i64 (k : Int)) [] rfl (by kernel_rfl) (fun _ _ _ h => h) (Or.inl ⟨by rfl, ?_⟩) hSt (fun hSn => ?_)
          · intro V _; go_simp
          clear hSt; rename Ph _ _ _ _ _ _ _ => hSt
          simp only [Act.put, List.setIfInBounds_toArray, List.set_cons_zero, List.set_cons_succ]
          refine take_ph 3 (.pointer (some ⟨b, o + k * 2, none⟩)) [] rfl (by kernel_rfl) (fun _ _ _ h => h) (Or.inl ⟨by rfl, ?_⟩) hSt (fun hSn => ?_)
          · intro V _; go_simp
          clear hSt; rename Ph _ _ _ _ _ _ _ => hSt
          simp only [Act.put, List.setIfInBounds_toArray, List.set_cons_zero, List.set_cons_succ]
          refine take_ph 4 (.pointer (some ⟨b, o + k * 2, none⟩)) [] rfl (by kernel_rfl) (fun _ _ _ h => h) (Or.inl ⟨by rfl, ?_⟩) hSt (fun hSn => ?_)
          · intro V _; go_simp
          clear hSt; rename Ph _ _ _ _ _ _ _ => hSt
          simp only [Act.put, List.setIfInBounds_toArray, List.set_cons_zero, List.set_cons_succ]
          refine take_ph 5 (.int .i64 lab) [12] rfl (by kernel_rfl) (fun _ _ _ h => h) (Or.inl ⟨by rfl, ?_⟩) hSt (fun hSn => ?_)
          · rintro V ⟨_, hB, hC⟩; have hh := hB (by decide); have e0 := F5.out V hh; clear hB hC; go_simp
          clear hSt; rename Ph _ _ _ _ _ _ _ => hSt
          simp only [Act.put, List.setIfInBounds_toArray, List.set_cons_zero, List.set_cons_succ]
          refine take_ph 6 (.slice (some ⟨b, o, none⟩) N1 cc) [] rfl (by kernel_rfl) (fun _ _ _ h => h) (Or.inl ⟨by rfl, ?_⟩) hSt (fun hSn => ?_)
          · intro V _; go_simp
          clear hSt; rename Ph _ _ _ _ _ _ _ => hSt
          simp only [Act.put, List.setIfInBounds_toArray, List.set_cons_zero, List.set_cons_succ]
          refine take_ph 7 (.int .i64 (k : Int)) [] rfl (by kernel_rfl) (fun _ _ _ h => h) (Or.inl ⟨by rfl, ?_⟩) hSt (fun hSn => ?_)
          · intro V _; go_simp
          clear hSt; rename Ph _ _ _ _ _ _ _ => hSt
          simp only [Act.put, List.setIfInBounds_toArray, List.set_cons_zero, List.set_cons_succ]
          refine take_ph 8 (.pointer (some ⟨b, o + k * 2, none⟩)) [] rfl (by kernel_rfl) (fun _ _ _ h => h) (Or.inl ⟨by rfl, ?_⟩) hSt (fun hSn => ?_)
          · intro V _; go_simp
          clear hSt; rename Ph _ _ _ _ _ _ _ => hSt
          simp only [Act.put, List.setIfInBounds_toArray, List.set_cons_zero, List.set_cons_succ]
          refine take_ph 9 (.pointer (some ⟨b, o + k * 2 + 1, none⟩)) [] rfl (by kernel_rfl) (fun _ _ _ h => h) (Or.inl ⟨by rfl, ?_⟩) hSt (fun hSn => ?_)
          · intro V _; go_simp
          clear hSt; rename Ph _ _ _ _ _ _ _ => hSt
          simp only [Act.put, List.setIfInBounds_toArray, List.set_cons_zero, List.set_cons_succ]
          refine take_ph 10 (.slice xa M xc) [11, 12] rfl (by kernel_rfl) (fun _ _ _ h => h) (Or.inl ⟨by rfl, ?_⟩) hSt (fun hSn => ?_)
          · rintro V ⟨_, hB, hC⟩; have hh := hB (by decide); have e0 := F10.out V hh; clear hB hC; go_simp
          clear hSt; rename Ph _ _ _ _ _ _ _ => hSt
          simp only [Act.put, List.setIfInBounds_toArray, List.set_cons_zero, List.set_cons_succ]
          refine ready_call_ph 11 rfl (by kernel_rfl) (fun KK hK => ?_)
          go_simp
          go_wp2_with (first | (go_at_call 8; refine HG.out.mono ?_; rintro e V1 ⟨ga, gc, gs, rfl, hgl, hgs, hgi, hgb⟩))
          refine hK.out _ _ ?_ (fun hSn => ?_)
          · exact ⟨trivial, fun _ => below_step (below_drew wr) hgb, fun _ => trivial⟩
          clear hK KK hSt; rename Ph _ _ _ _ _ _ _ => hSt
          refine ready_call_ph 12 rfl (by kernel_rfl) (fun KK hK => ?_)
          go_simp
          go_wp2_with (first | (go_at_call 7; refine (HAp.out V1 ga gc gs hgl hgs hgi (below_step (below_drew wr) hgb)).mono ?_; rintro e V2 ⟨v, rfl, hru⟩))
          refine hK.out _ _ ?_ (fun hSn => ?_)
          · exact ⟨trivial, fun h => absurd (show true = false from h) (by decide), fun _ => trivial⟩
          clear hK KK hSt; rename Ph _ _ _ _ _ _ _ => hSt
          refine done_ph (by kernel_rfl) ?_ _
          clear hSt
          refine NoPanic.normal ?_
          have HNx := Lib.hid hru
          clear HG HAp F5 F10 hru hgl hgs hgi hgb HR
          go_wp2_with fail
          go_roundw
          case rel => exact ⟨k + 1, by omega, by omega, by go_num, HNx⟩
          case measure => simp [intOf]; omega
        · have hb' : ¬ (k : Int) < 20 := by omega
          go_wp2_with fail
          go_meet
          case rel => exact ⟨k, hk20, HR.out⟩
      · have ha' : ¬ (k : Int) < (N1 : Int) := by omega
        go_wp2_with fail
        go_meet
        case rel => exact ⟨k, hk20, HR.out⟩
  case rest =>
    obtain ⟨k, hk20, hru⟩ := hcut.out
    have hBx := hru.below
    obtain ⟨S, K, x, hf, hS, hfr, hKt, hcm, _, _⟩ := hru.ex
    have HNw := Lib.hid (fnow_ hf)
    have HX := Lib.hid (And.intro hf (And.intro hS (And.intro hKt (And.intro hcm hBx))))
    have hNL : 0 < NL := by rw [← HNs.out.1]; exact HUs.out.2.pos
    have hNL16 : NL ≤ 16 := by rw [← HNs.out.1]; exact HUs.out.2.le
    unfold NowTo at HNw
    clear hcut hru hf hS hfr hKt hcm hBx HRu c1
    go_wp2_with fail
    refine HNw.out.mono ?_
    rintro e w3 ⟨sa, sc, rfl, hz, hb3⟩
    have HS := Lib.hid (And.intro hz hb3)
    have hb13 := below_step HX.out.2.2.2.2 hb3
    have c0 := (hb13.cell (block_lt_of_cell HC0.out.1)).trans HC0.out.1
    have c1 := (hb13.cell (block_lt_of_cell HC0.out.2)).trans HC0.out.2
    have hT0 : 0 < ts.length := by rw [HNs.out.2.1]; have := HZ.out; omega
    obtain ⟨tb, to_, rfl, k00, k9⟩ := HIn.out.2.2 0 hT0
    clear k9
    simp only [Nat.zero_mul, Nat.add_zero] at k00
    have k0 := (hb13.cell (block_lt_of_cell k00)).trans k00
    have hj := tab_first HUs.out.1 hT0
    have HTn := Lib.hid (And.intro hj k00)
    generalize ts[0].nm = nm at *
    have hK8 : K ≤ 800000 := Nat.le_trans HX.out.2.2.1 (Nat.le_trans (wrN_take cl k) (by have := HOk.out.2.2; omega))
    have HV := Lib.hid (fview_ (HX.out.1.on hb3) (fun a => Lt.upTo_nodup _ _) (fun a => Nat.le_trans (Lt.upTo_len _ _) HUs.out.2.le) ((NL : Int) - 1) (sc := sc) hz.1 (by rw [nowL_len]; omega) nm rg0 (by omega))
    rw [has_top hNL, now_snap, Bool.and_self, nowL_len] at HV
    have hw1 := wraps_i64 ((NL : Int) - 1) (by omega) (by omega)
    have hti : (0 : Int) < (NT : Int) := by have := HZ.out; omega
    clear hz hb3 hb13 hT0 hj HNw k00
    go_wp2_with fail
    refine HV.out.mono ?_
    intro e w4 hv
    obtain ⟨a4, c4, Zs, rfl, hr, hg, hs, hb4⟩ := view_ok hv HTn.out.1
    have HR2 : Hid (Ru w4 S NL ps (fun i => Lt.belowL ls i) us (fun a b => rowsM rg0 (snapF (nowL NL x) a) (x.fr a b)) (snapF (nowL NL x)) (wrN (cl.take k) + wrN (cm.take 0)) (k + 0) w4) :=
      ⟨S, K, x, HX.out.1.on (below_step HS.out.2 hb4), fun q hq => .inl hq, Frame.refl S w4, HX.out.2.2.1, HX.out.2.2.2.1, now_le NL x, fun _ _ => rfl⟩
    have HFar : Hid (Below W1.heap.size W1 w4 ∧ (∀ q, S q → W1.heap.size ≤ q) ∧ ∀ q, S q → q < w3.heap.size) := ⟨below_step HX.out.2.2.2.2 (below_step HS.out.2 hb4), fun q hq => (HX.out.2.1 q hq).elim False.elim id, fun q hq => Nat.lt_of_lt_of_le (HX.out.1.bd q hq) HS.out.2.size⟩
    have HVw := Lib.hid (And.intro hr (And.intro hg (And.intro hs (And.intro (HS.out.1.1.on hb4) HS.out.1.2))))
    obtain ⟨LZ, hLZ⟩ : ∃ L, (Zs.map rvOf).length = L := ⟨_, rfl⟩
    have HLZ := Lib.hid hLZ
    rw [hLZ]
    clear hv hr hg hs hb4 hLZ HV c0 c1 k0 hK8
    go_upto_block 2 with fail
    go_cut [13] from 72 to 94 (fun _ wx => Hid (∃ q, q ≤ 20 ∧ Ru w4 S NL ps (fun i => Lt.belowL ls i) us (fun a b => rowsM rg0 (snapF (nowL NL x) a) (x.fr a b)) (snapF (nowL NL x)) (wrN (cl.take k) + wrN (cm.take q)) (k + q) wx))
    case first =>
      go_wp2_with fail
      go_loopw [13] (fun iv wr => ∃ q : Nat, q ≤ N2 ∧ q ≤ 20 ∧ iv = .int .i64 q ∧ Hid (Ru w4 S NL ps (fun i => Lt.belowL ls i) us (fun a b => rowsM rg0 (snapF (nowL NL x) a) (x.fr a b)) (snapF (nowL NL x)) (wrN (cl.take k) + wrN (cm.take q)) (k + q) wr)) (fun iv _ => N2 - (intOf iv).toNat)
      case atStart => exact ⟨0, Nat.zero_le _, Nat.zero_le _, rfl, HR2⟩
      case round =>
        obtain ⟨q, hq, hq20, rfl, HR⟩ := hrel
        clear HR2
        by_cases ha : q < N2
        · have ha' : (q : Int) < (N2 : Int) := by omega
          by_cases hb : q < 20
          · have hb' : (q : Int) < 20 := by omega
            have hkl : q < cm.length := by rw [HNs.out.2.2.2]; exact ha
            obtain ⟨b, o, rfl, y0, y1, hw⟩ := (HIn.out.2.1.on (HR.out.far HFar.out.1 HFar.out.2.1)) q hkl
            have hok := HOk.out.2.1 _ (List.getElem_mem hkl)
            have hS := wrN_succ hkl
            have hbd : wrN (cl.take k) + wrN (cm.take (q + 1)) ≤ 800000 := by have := wrN_take cl k; have := wrN_take cm (q + 1); have := HOk.out.2.2; omega
            unfold CmV.Ok at hok
            generalize cm[q].lab = lab at *
            generalize cm[q].a = xa at *
            generalize cm[q].c = xc at *
            generalize cm[q].ws = ws at *
            obtain ⟨M, hM⟩ : ∃ M, ws.length = M := ⟨_, rfl⟩
            have HG := Lib.hid (give_at (c := xc) (hw.on (below_drew wr)) hok hM (by omega))
            have HAp : Hid (∀ (V1 : World) (ga : Option Addr) (gc : Nat) (gs : List WV), gs.length = M → (∀ x ∈ gs, x.Ok) → WrsIn V1 ga gs → Below wr.heap.size wr V1 → Calls Tryz.prog 7 #[.pointer (some ⟨ps, 0, none⟩), .int .i64 lab, .slice ga M gc] V1 fun e w' => ∃ v, e = .returned v ∧ Ru w4 S NL ps (fun i => Lt.belowL ls i) us (fun a b => rowsM rg0 (snapF (nowL NL x) a) (x.fr a b)) (snapF (nowL NL x)) (wrN (cl.take k) + wrN (cm.take (q + 1))) (k + (q + 1)) w') := fun V1 ga gc gs h1 h2 h3 h4 => by
              rw [← h1]
              have := ru_step HR.out h4 lab (gc := gc) h3 h2 (by omega) (by omega)
              rw [hS, hM, ← h1, ← Nat.add_assoc, ← Nat.add_assoc]
              exact this
            have F5 : Hid (∀ V, Below wr.heap.size wr V → V.cell? ⟨b, o + q * 2, none⟩ = some (.int .i64 lab)) := fun V hV => (hV.cell (block_lt_of_cell y0)).trans y0
            have F10 : Hid (∀ V, Below wr.heap.size wr V → V.cell? ⟨b, o + q * 2 + 1, none⟩ = some (.slice xa M xc)) := fun V hV => by
              rw [← hM]; exact (hV.cell (block_lt_of_cell y1)).trans y1
            clear y0 y1 hw hok hS hbd hM hkl
            go_upto_region 14 with fail
            refine wp_region_noPanic ?_
            refine region_ph (A := fun _ => True) (e1 := 12) (B := (fun V => Below wr.heap.size wr V)) (e2 := 12) (C := (fun _ => True)) (by kernel_rfl) (⟨trivial, fun _ => below_drew wr, fun _ => trivial⟩) (fun hSt => ?_)
            refine take_ph 0 (.pointer (some ⟨ps, 0, none⟩)) [] rfl (by kernel_rfl) (fun _ _ _ h => h) (Or.inl ⟨by rfl, ?_⟩) hSt (fun hSn => ?_)
            · intro V _; go_simp
            clear hSt; rename Ph _ _ _ _ _ _ _ => hSt
            simp only [Act.put, List.setIfInBounds_toArray, List.set_cons_zero, List.set_cons_succ]
            refine take_ph 1 (.slice (some ⟨b, o, none⟩) N2 cd) [] rfl (by kernel_rfl) (fun _ _ _ h => h) (Or.inl ⟨by rfl, ?_⟩) hSt (fun hSn => ?_)
            · intro V _; go_simp
            clear hSt; rename Ph _ _ _ _ _ _ _ => hSt
            simp only [Act.put, List.setIfInBounds_toArray, List.set_cons_zero, List.set_cons_succ]
            refine take_ph 2 (.int .i64 (q : Int)) [] rfl (by kernel_rfl) (fun _ _ _ h => h) (Or.inl ⟨by rfl, ?_⟩) hSt (fun hSn => ?_)
            · intro V _; go_simp
            clear hSt; rename Ph _ _ _ _ _ _ _ => hSt
            simp only [Act.put, List.setIfInBounds_toArray, List.set_cons_zero, List.set_cons_succ]
            refine take_ph 3 (.pointer (some ⟨b, o + q * 2, none⟩)) [] rfl (by kernel_rfl) (fun _ _ _ h => h) (Or.inl ⟨by rfl, ?_⟩) hSt (fun hSn => ?_)
            · intro V _; go_simp
            clear hSt; rename Ph _ _ _ _ _ _ _ => hSt
            simp only [Act.put, List.setIfInBounds_toArray, List.set_cons_zero, List.set_cons_succ]
            refine take_ph 4 (.pointer (some ⟨b, o + q * 2, none⟩)) [] rfl (by kernel_rfl) (fun _ _ _ h => h) (Or.inl ⟨by rfl, ?_⟩) hSt (fun hSn => ?_)
            · intro V _; go_simp
            clear hSt; rename Ph _ _ _ _ _ _ _ => hSt
            simp only [Act.put, List.setIfInBounds_toArray, List.set_cons_zero, List.set_cons_succ]
            refine take_ph 5 (.int .i64 lab) [12] rfl (by kernel_rfl) (fun _ _ _ h => h) (Or.inl ⟨by rfl, ?_⟩) hSt (fun hSn => ?_)
            · rintro V ⟨_, hB, hC⟩; have hh := hB (by decide); have e0 := F5.out V hh; clear hB hC; go_simp
            clear hSt; rename Ph _ _ _ _ _ _ _ => hSt
            simp only [Act.put, List.setIfInBounds_toArray, List.set_cons_zero, List.set_cons_succ]
            refine take_ph 6 (.slice (some ⟨b, o, none⟩) N2 cd) [] rfl (by kernel_rfl) (fun _ _ _ h => h) (Or.inl ⟨by rfl, ?_⟩) hSt (fun hSn => ?_)
            · intro V _; go_simp
            clear hSt; rename Ph _ _ _ _ _ _ _ => hSt
            simp only [Act.put, List.setIfInBounds_toArray, List.set_cons_zero, List.set_cons_succ]
            refine take_ph 7 (.int .i64 (q : Int)) [] rfl (by kernel_rfl) (fun _ _ _ h => h) (Or.inl ⟨by rfl, ?_⟩) hSt (fun hSn => ?_)
            · intro V _; go_simp
            clear hSt; rename Ph _ _ _ _ _ _ _ => hSt
            simp only [Act.put, List.setIfInBounds_toArray, List.set_cons_zero, List.set_cons_succ]
            refine take_ph 8 (.pointer (some ⟨b, o + q * 2, none⟩)) [] rfl (by kernel_rfl) (fun _ _ _ h => h) (Or.inl ⟨by rfl, ?_⟩) hSt (fun hSn => ?_)
            · intro V _; go_simp
            clear hSt; rename Ph _ _ _ _ _ _ _ => hSt
            simp only [Act.put, List.setIfInBounds_toArray, List.set_cons_zero, List.set_cons_succ]
            refine take_ph 9 (.pointer (some ⟨b, o + q * 2 + 1, none⟩)) [] rfl (by kernel_rfl) (fun _ _ _ h => h) (Or.inl ⟨by rfl, ?_⟩) hSt (fun hSn => ?_)
            · intro V _; go_simp
            clear hSt; rename Ph _ _ _ _ _ _ _ => hSt
            simp only [Act.put, List.setIfInBounds_toArray, List.set_cons_zero, List.set_cons_succ]
            refine take_ph 10 (.slice xa M xc) [11, 12] rfl (by kernel_rfl) (fun _ _ _ h => h) (Or.inl ⟨by rfl, ?_⟩) hSt (fun hSn => ?_)
            · rintro V ⟨_, hB, hC⟩; have hh := hB (by decide); have e0 := F10.out V hh; clear hB hC; go_simp
            clear hSt; rename Ph _ _ _ _ _ _ _ => hSt
            simp only [Act.put, List.setIfInBounds_toArray, List.set_cons_zero, List.set_cons_succ]
            refine ready_call_ph 11 rfl (by kernel_rfl) (fun KK hK => ?_)
            go_simp
            go_wp2_with (first | (go_at_call 8; refine HG.out.mono ?_; rintro e V1 ⟨ga, gc, gs, rfl, hgl, hgs, hgi, hgb⟩))
            refine hK.out _ _ ?_ (fun hSn => ?_)
            · exact ⟨trivial, fun _ => below_step (below_drew wr) hgb, fun _ => trivial⟩
            clear hK KK hSt; rename Ph _ _ _ _ _ _ _ => hSt
            refine ready_call_ph 12 rfl (by kernel_rfl) (fun KK hK => ?_)
            go_simp
            go_wp2_with (first | (go_at_call 7; refine (HAp.out V1 ga gc gs hgl hgs hgi (below_step (below_drew wr) hgb)).mono ?_; rintro e V2 ⟨v, rfl, hru⟩))
            refine hK.out _ _ ?_ (fun hSn => ?_)
            · exact ⟨trivial, fun h => absurd (show true = false from h) (by decide), fun _ => trivial⟩
            clear hK KK hSt; rename Ph _ _ _ _ _ _ _ => hSt
            refine done_ph (by kernel_rfl) ?_ _
            clear hSt
            refine NoPanic.normal ?_
            have HNx := Lib.hid hru
            clear HG HAp F5 F10 hru hgl hgs hgi hgb HR
            go_wp2_with fail
            go_roundw
            case rel => exact ⟨q + 1, by omega, by omega, by go_num, HNx⟩
            case measure => simp [intOf]; omega
          · have hb' : ¬ (q : Int) < 20 := by omega
            go_wp2_with fail
            go_meet
            case rel => exact ⟨q, hq20, HR.out⟩
        · have ha' : ¬ (q : Int) < (N2 : Int) := by omega
          go_wp2_with fail
          go_meet
          case rel => exact ⟨q, hq20, HR.out⟩
    case rest =>
      obtain ⟨q, hq20, hru⟩ := hcut.out
      have hB5 := hru.far HFar.out.1 HFar.out.2.1
      obtain ⟨S2, K2, y, hf2, _, hfr2, hKt2, _, _, hR2⟩ := hru.ex
      have c0 := (hB5.cell (block_lt_of_cell HC0.out.1)).trans HC0.out.1
      have c1 := (hB5.cell (block_lt_of_cell HC0.out.2)).trans HC0.out.2
      have k0 := (hB5.cell (block_lt_of_cell HTn.out.2)).trans HTn.out.2
      have hz2 := ZsIn.keep HVw.out.2.2.2.1 hfr2 HX.out.1.bd HVw.out.2.2.2.2
      have hK9 : K2 ≤ 800000 := by have := wrN_take cl k; have := wrN_take cm q; have := HOk.out.2.2; omega
      have HV2 := Lib.hid (fview_ hf2 (fun a => Lt.upTo_nodup _ _) (fun a => Nat.le_trans (Lt.upTo_len _ _) HUs.out.2.le) ((NL : Int) - 1) (sc := sc) hz2 (by rw [nowL_len]; omega) nm rg0 (by omega))
      rw [has_top hNL, now_snap, Bool.and_self, nowL_len] at HV2
      have HR5 := Lib.hid (HVw.out.1.keep hfr2 HFar.out.2.2)
      have HQ5 := Lib.hid (And.intro hR2 (And.intro hf2.ok (And.intro hB5 (show K2 ≤ 900000 by omega))))
      clear hcut hru hB5 hf2 hfr2 hKt2 hR2 hz2 hK9 HR2
      go_wp2_with fail
      refine HV2.out.mono ?_
      intro e w6 hv
      obtain ⟨a6, c6, Zt, rfl, hr6, hg6, hs6, hb6⟩ := view_ok hv HTn.out.1
      have heq : Zs.map rvOf = Zt.map rvOf := views_same HVw.out.2.2.1 hs6 HVw.out.2.1 hg6 HQ5.out.1
      have hlt := see_len HQ5.out.2.1 hs6 (Nat.le_trans (Lt.upTo_len _ _) HUs.out.2.le) HQ5.out.2.2.2
      have hr5 := HR5.out.keep (Frame.below (Ft := fun _ => False) hb6) (fun _ h => h.elim)
      have HRw := Lib.hid (lrows_ (c := c4) (c' := c6) hr5.rws hr6.rws heq (rv_len HVw.out.2.1) (by rw [heq]; exact hlt))
      have hb16 := below_step HQ5.out.2.2.1 hb6
      have HB16 := Lib.hid hb16
      rw [← heq]
      rw [← heq, HLZ.out] at HRw
      rw [HLZ.out]
      clear hv hr6 hg6 hs6 hb6 heq hlt hr5 hb16 HV2 c0 c1 k0
      go_wp2_with fail
      refine HRw.out.mono ?_
      rintro e w7 ⟨rfl, hb7⟩
      have c0 := ((below_step HB16.out hb7).cell (block_lt_of_cell HC0.out.1)).trans HC0.out.1
      have HB7 := Lib.hid (below_step HB1.out (below_step HB16.out hb7))
      clear hb7 HRw
      go_wp2_with fail
      refine (sure_ _).mono ?_
      rintro e w8 ⟨rfl, hb8⟩
      have HE := Lib.hid (below_step HB7.out hb8)
      clear hb8
      go_wp2_with fail
      go_ret
      exact ⟨rfl, HE.out⟩
end Go.Proofs.YtnfogneanjgppaaGreat
