/- Commits among the arguments opened; how much there is of them; A case among the arguments opened; what the bound on the bulk gives. -/
import Derived.Test.YtalmanfjiblhcaaGreatJ2
import Derived.Test.YtalmanfjiblhcaaGreatJ7
import Derived.Test.YtalmanfjiblhcaaGreatJ9
import Derived.Test.YtalmanfjiblhcaaGreatJ38
import Derived.JoinedCond
namespace Go.Proofs.YtalmanfjiblhcaaGreat.Rw
open Go.ChangeShapes Go.WideShapes Go.ChangeAt Go.RowKit
set_option maxRecDepth 100000 in
theorem open_vals {H : Type} {enc : TypeId × Value → H} {W : World} {v : Value} {d : DataW H} {p : List MemPlace} {tVs : TypeId} {fuel : Nat} (hT : Tryz.prog.underlying tVs = some (.slice 73))
 (h' : DataW.trod enc Tryz.prog W 0 (fun _ => true) true fuel tVs [v] = some (d, p)) :
 ∃ (a : Option Addr) (vs : List Val) (c : Nat), v = .slice a vs.length c ∧ ValsIn W a vs ∧ (∀ x ∈ vs, WfV x) ∧ vs.length ≤ c ∧ c ≤ maxLen ∧ (a = none → c = 0) ∧ ((d = .nil ∧ vs = []) ∨ ∃ spare, d = .slice (vs.map datV) spare) := by
 rcases Deep.open_slice hT h' with ⟨e1, e2⟩ | ⟨ad, len', cap', m, n, D, Pl, e1, _, hl, hcm, hm, e2, hc⟩
 · simp only [List.cons.injEq, and_true] at e1
   subst e1
   simp only [Prod.mk.injEq] at e2
   exact ⟨none, [], 0, rfl, valsIn_nil _ _, fun x hx => by simp at hx, Nat.le_refl _, Nat.zero_le _, fun _ => rfl, .inl ⟨e2.1, rfl⟩⟩
 · simp only [List.cons.injEq, and_true] at e1
   subst e1
   simp only [if_true] at hm
   subst hm
   simp only [Prod.mk.injEq] at e2
   have each : ∀ i, i < m → ∃ x : Val, WfV x ∧ D i = datV x ∧ ∃ b o, ad = ⟨b, o, none⟩ ∧ In4 W b (o + i * 4) x.k x.n x.t x.b := by
    intro i hi
    obtain ⟨cs', h1, h2⟩ := hc i hi
    rw [cellsV] at h1
    obtain ⟨_, hlen, hcell⟩ := World.cells?_some h1
    obtain ⟨xs, k, _, hxy, _, hxl, hf⟩ := DataW.trod_struct Tryz.underlying73 h2
    match xs, hxl, cs', hlen with
    | [y0, y1, y2, y3], _, [v0, v1, v2, v3], _ =>
      have c3 : Tryz.prog.cellsOf 3 = 1 := by kernel_rfl
      have c9 : Tryz.prog.cellsOf 9 = 1 := by kernel_rfl
      have c4 : Tryz.prog.cellsOf 4 = 1 := by kernel_rfl
      have g0 := hf 0 _ rfl
      have g1 := hf 1 _ rfl
      have g2 := hf 2 _ rfl
      have g3 := hf 3 _ rfl
      simp [c3, c4, c9] at g0 g1 g2 g3
      obtain ⟨x0, f0, rfl, w0⟩ := DataW.trod_int Tryz.underlying3 g0
      obtain ⟨x1, f1, rfl, w1⟩ := DataW.trod_int Tryz.underlying3 g1
      obtain ⟨x2, f2, rfl, w2⟩ := DataW.trod_string Tryz.underlying9 g2
      obtain ⟨x3, f3, rfl⟩ := DataW.trod_bool Tryz.underlying4 g3
      simp at f0 f1 f2 f3
      subst f0 f1 f2 f3
      obtain ⟨b, o, sp⟩ := ad
      have k0 := hcell 0 (by simp)
      have k1 := hcell 1 (by simp)
      have k2 := hcell 2 (by simp)
      have k3 := hcell 3 (by simp)
      have hsp : sp = none := by
       obtain ⟨cs0, z1, _⟩ := hc 0 (by omega)
       rw [cellsV] at z1
       obtain ⟨_, zl, zc⟩ := World.cells?_some z1
       have z0 := zc 0 (by omega)
       exact plain_addr (b := b) (o := o) (z0.trans (List.getElem?_eq_getElem (by omega)))
      subst hsp
      simp only [Addr.add_lit] at k0 k1 k2 k3
      simp only [Prod.mk.injEq] at hxy
      refine ⟨⟨x0, x1, x2, x3⟩, ⟨i64_in w0, i64_in w1, w2⟩, by simpa [datV] using hxy.1, b, o, rfl, ?_, ?_, ?_, ?_⟩
      · simpa using k0
      · simpa [Nat.add_assoc] using k1
      · simpa [Nat.add_assoc] using k2
      · simpa [Nat.add_assoc] using k3
   obtain ⟨f, hf⟩ := @Deep.choose_lt Val ⟨⟨0, 0, ⟨#[]⟩, false⟩⟩ m _ each
   have hlen : ((List.range len').map f).length = len' := by simp
   refine ⟨some ad, (List.range len').map f, m, by rw [hlen], ?_, ?_, by rw [hlen]; exact hl, hcm, fun hh => (by cases hh), .inr ⟨(List.range (m - len')).map (fun j => D (len' + j)), e2.1.trans ?_⟩⟩
   · intro i hi
     rw [hlen] at hi
     obtain ⟨_, _, b, o, rfl, hin⟩ := hf i (by omega)
     refine ⟨b, o, rfl, ?_⟩
     simp only [List.getElem_map, List.getElem_range]
     exact hin
   · intro x hx
     obtain ⟨i, hi, rfl⟩ := List.mem_map.1 hx
     exact (hf i (by have := List.mem_range.1 hi; omega)).1
   · rw [List.map_map, List.map_congr_left (g := datV ∘ f) (fun i hi => (hf i (by have := List.mem_range.1 hi; omega)).2.1)]
end Go.Proofs.YtalmanfjiblhcaaGreat.Rw
namespace Go.Proofs.YtalmanfjiblhcaaGreat
open Go.ChangeShapes Go.WideShapes Go.ChangeAt Go.RowKit
theorem cellsWr : Tryz.prog.cellsOf 75 = 3 := by kernel_rfl
theorem cellsCm : Tryz.prog.cellsOf 35 = 2 := by kernel_rfl
def IsW {H : Type} (x : WV) (d : DataW H) : Prop := ∃ dv, d = .agg [.lit (.string x.nm.data.toList), .lit (.bool x.gn), dv] ∧ ((dv = .nil ∧ x.vs = []) ∨ ∃ spare, dv = .slice (x.vs.map Rw.datV) spare)
def IsWs {H : Type} (ws : List WV) (d : DataW H) : Prop := (d = .nil ∧ ws = []) ∨ ∃ es spare, d = .slice es spare ∧ es.length = ws.length ∧ ∀ i (h : i < ws.length) (h2 : i < es.length), IsW ws[i] es[i]
def IsCm {H : Type} (y : CmV) (d : DataW H) : Prop := ∃ dw, d = .agg [.lit (.int .i64 y.lab), dw] ∧ IsWs y.ws dw
def IsCms {H : Type} (cs : List CmV) (d : DataW H) : Prop := (d = .nil ∧ cs = []) ∨ ∃ es spare, d = .slice es spare ∧ es.length = cs.length ∧ ∀ i (h : i < cs.length) (h2 : i < es.length), IsCm cs[i] es[i]
def WfW (x : WV) : Prop := (∀ v ∈ x.vs, Rw.inI v.n) ∧ (x.a = none → x.c = 0)
set_option maxRecDepth 100000 in
theorem open_wrs {H : Type} {enc : TypeId × Value → H} {W : World} {v : Value} {d : DataW H} {p : List MemPlace} {fuel : Nat}
 (h' : DataW.trod enc Tryz.prog W 0 (fun _ => true) true fuel 33 [v] = some (d, p)) :
 ∃ (a : Option Addr) (ws : List WV) (c : Nat), v = .slice a ws.length c ∧ WrsIn W a ws ∧ (∀ x ∈ ws, WfW x) ∧ IsWs ws d := by
 rcases Deep.open_slice Tryz.underlying33 h' with ⟨e1, e2⟩ | ⟨ad, len', cap', m, n, D, Pl, e1, _, hl, hcm, hm, e2, hc⟩
 · simp only [List.cons.injEq, and_true] at e1
   subst e1
   simp only [Prod.mk.injEq] at e2
   exact ⟨none, [], 0, rfl, fun i hi => (by simp at hi), fun x hx => (by cases hx), .inl ⟨e2.1, rfl⟩⟩
 · simp only [List.cons.injEq, and_true] at e1
   subst e1
   simp only [if_true] at hm
   subst hm
   simp only [Prod.mk.injEq] at e2
   have each : ∀ i, i < m → ∃ x : WV, IsW x (D i) ∧ WfW x ∧ x.In W ∧ ∃ b o, ad = ⟨b, o, none⟩ ∧ W.cell? ⟨b, o + i * 3, none⟩ = some (.string x.nm) ∧ W.cell? ⟨b, o + i * 3 + 1, none⟩ = some (.bool x.gn) ∧ W.cell? ⟨b, o + i * 3 + 2, none⟩ = some (.slice x.a x.vs.length x.c) := by
    intro i hi
    obtain ⟨cs', h1, h2⟩ := hc i hi
    rw [cellsWr] at h1
    obtain ⟨_, hlen, hcell⟩ := World.cells?_some h1
    obtain ⟨xs, k, _, hxy, _, hxl, hf⟩ := DataW.trod_struct Tryz.underlying75 h2
    match xs, hxl, cs', hlen with
    | [y0, y1, y2], _, [v0, v1, v2], _ =>
      have c9 : Tryz.prog.cellsOf 9 = 1 := by kernel_rfl
      have c4 : Tryz.prog.cellsOf 4 = 1 := by kernel_rfl
      have cV : Tryz.prog.cellsOf 52 = 1 := by kernel_rfl
      have g0 := hf 0 _ rfl
      have g1 := hf 1 _ rfl
      have g2 := hf 2 _ rfl
      simp [c9, c4, cV] at g0 g1 g2
      obtain ⟨s0, e0, hy0, _⟩ := DataW.trod_string Tryz.underlying9 g0
      obtain ⟨b1, e3, hy1⟩ := DataW.trod_bool Tryz.underlying4 g1
      obtain ⟨va, vs, vc, ev, hin, hwf, _, _, hnil, hcase⟩ := Rw.open_vals (d := y2.1) (p := y2.2) Tryz.underlying52 g2
      simp at e0 e3
      subst e0 e3 ev
      obtain ⟨b, o, sp⟩ := ad
      have k0 := hcell 0 (by simp)
      have k1 := hcell 1 (by simp)
      have k2 := hcell 2 (by simp)
      have hsp : sp = none := by
       obtain ⟨cs0, z1, _⟩ := hc 0 (by omega)
       rw [cellsWr] at z1
       obtain ⟨_, zl, zc⟩ := World.cells?_some z1
       have z0 := zc 0 (by omega)
       exact Tb.plain_addr (b := b) (o := o) (z0.trans (List.getElem?_eq_getElem (by omega)))
      subst hsp
      simp only [Addr.add_lit] at k0 k1 k2
      simp only [Prod.mk.injEq] at hxy
      refine ⟨⟨s0, b1, va, vc, vs⟩, ⟨y2.1, ?_, hcase⟩, ⟨fun x hx => (hwf x hx).2.1, hnil⟩, hin, b, o, rfl, ?_, ?_, ?_⟩
      · have := hxy.1
        simp only [List.map_cons, List.map_nil] at this
        rw [this, hy0, hy1]
      · simpa using k0
      · simpa [Nat.add_assoc] using k1
      · simpa [Nat.add_assoc] using k2
   obtain ⟨f, hf⟩ := @Deep.choose_lt WV ⟨⟨⟨#[]⟩, false, none, 0, []⟩⟩ m _ each
   have hlen : ((List.range len').map f).length = len' := by simp
   refine ⟨some ad, (List.range len').map f, m, by rw [hlen], ?_, ?_, .inr ⟨_, _, e2.1, by simp, ?_⟩⟩
   · intro i hi
     rw [hlen] at hi
     obtain ⟨_, _, h3, b, o, rfl, h4, h5, h6⟩ := hf i (by omega)
     simp only [List.getElem_map, List.getElem_range]
     exact ⟨⟨b, o, rfl, h4, h5, h6⟩, h3⟩
   · intro x hx
     obtain ⟨i, hi, rfl⟩ := List.mem_map.1 hx
     exact (hf i (by have := List.mem_range.1 hi; omega)).2.1
   · intro i hi h2
     rw [hlen] at hi
     have := (hf i (by omega)).1
     simp only [List.getElem_map, List.getElem_range]
     exact this
set_option maxRecDepth 100000 in
theorem open_cms {H : Type} {enc : TypeId × Value → H} {W : World} {base : Nat} {v : Value} {d : DataW H} {p : List MemPlace}
 (hv : Value.okWide Tryz.prog W .any base 26 v) (h : DataW.Trod enc Tryz.prog W 0 (fun _ => true) true 26 v d p) :
 ∃ (a : Option Addr) (cs : List CmV) (c : Nat), v = .slice a cs.length c ∧ CmsIn W a cs ∧ (∀ y ∈ cs, ∀ x ∈ y.ws, WfW x) ∧ IsCms cs d := by
 obtain ⟨a, len, cap, rfl⟩ := okWide_slice Tryz.underlying26 hv
 obtain ⟨fuel, h⟩ := h
 have h' : DataW.trod enc Tryz.prog W 0 (fun _ => true) true fuel 26 [.slice a len cap] = some (d, p) := by simpa [Value.cells] using h
 rcases Deep.open_slice Tryz.underlying26 h' with ⟨e1, e2⟩ | ⟨ad, len', cap', m, n, D, Pl, e1, _, hl, hcm, hm, e2, hc⟩
 · simp only [List.cons.injEq, and_true, Value.slice.injEq] at e1
   obtain ⟨rfl, rfl, rfl⟩ := e1
   simp only [Prod.mk.injEq] at e2
   exact ⟨none, [], 0, rfl, fun i hi => (by simp at hi), fun x hx => (by cases hx), .inl ⟨e2.1, rfl⟩⟩
 · simp only [List.cons.injEq, and_true, Value.slice.injEq] at e1
   obtain ⟨rfl, rfl, rfl⟩ := e1
   simp only [if_true] at hm
   subst hm
   simp only [Prod.mk.injEq] at e2
   have each : ∀ i, i < m → ∃ y : CmV, IsCm y (D i) ∧ (∀ x ∈ y.ws, WfW x) ∧ WrsIn W y.a y.ws ∧ ∃ b o, ad = ⟨b, o, none⟩ ∧ W.cell? ⟨b, o + i * 2, none⟩ = some (.int .i64 y.lab) ∧ W.cell? ⟨b, o + i * 2 + 1, none⟩ = some (.slice y.a y.ws.length y.c) := by
    intro i hi
    obtain ⟨cs', h1, h2⟩ := hc i hi
    rw [cellsCm] at h1
    obtain ⟨_, hlen, hcell⟩ := World.cells?_some h1
    obtain ⟨xs, k, _, hxy, _, hxl, hf⟩ := DataW.trod_struct Tryz.underlying35 h2
    match xs, hxl, cs', hlen with
    | [y0, y1], _, [v0, v1], _ =>
      have c3 : Tryz.prog.cellsOf 3 = 1 := by kernel_rfl
      have cW : Tryz.prog.cellsOf 33 = 1 := by kernel_rfl
      have g0 := hf 0 _ rfl
      have g1 := hf 1 _ rfl
      simp [c3, cW] at g0 g1
      obtain ⟨x0, e0, hy0, _⟩ := DataW.trod_int Tryz.underlying3 g0
      obtain ⟨wa, ws, wc, ew, hin, hwf, hcase⟩ := open_wrs (d := y1.1) (p := y1.2) g1
      simp at e0
      subst e0 ew
      obtain ⟨b, o, sp⟩ := ad
      have k0 := hcell 0 (by simp)
      have k1 := hcell 1 (by simp)
      have hsp : sp = none := by
       obtain ⟨cs0, z1, _⟩ := hc 0 (by omega)
       rw [cellsCm] at z1
       obtain ⟨_, zl, zc⟩ := World.cells?_some z1
       have z0 := zc 0 (by omega)
       exact Tb.plain_addr (b := b) (o := o) (z0.trans (List.getElem?_eq_getElem (by omega)))
      subst hsp
      simp only [Addr.add_lit] at k0 k1
      simp only [Prod.mk.injEq] at hxy
      refine ⟨⟨x0, wa, wc, ws⟩, ⟨y1.1, ?_, hcase⟩, hwf, hin, b, o, rfl, ?_, ?_⟩
      · have := hxy.1
        simp only [List.map_cons, List.map_nil] at this
        rw [this, hy0]
      · simpa using k0
      · simpa [Nat.add_assoc] using k1
   obtain ⟨f, hf⟩ := @Deep.choose_lt CmV ⟨⟨0, none, 0, []⟩⟩ m _ each
   have hlen : ((List.range len).map f).length = len := by simp
   refine ⟨some ad, (List.range len).map f, m, by rw [hlen], ?_, ?_, .inr ⟨_, _, e2.1, by simp, ?_⟩⟩
   · intro i hi
     rw [hlen] at hi
     obtain ⟨_, _, h3, b, o, rfl, h4, h5⟩ := hf i (by omega)
     simp only [List.getElem_map, List.getElem_range]
     exact ⟨b, o, rfl, h4, h5, h3⟩
   · intro x hx
     obtain ⟨i, hi, rfl⟩ := List.mem_map.1 hx
     exact (hf i (by have := List.mem_range.1 hi; omega)).2.1
   · intro i hi h2
     rw [hlen] at hi
     have := (hf i (by omega)).1
     simp only [List.getElem_map, List.getElem_range]
     exact this
end Go.Proofs.YtalmanfjiblhcaaGreat
namespace Go.Proofs.YtalmanfjiblhcaaGreat.Lt
open Go.ChangeShapes Go.WideShapes Go.ChangeAt Go.RowKit Go.Joins
set_option maxRecDepth 100000 in
theorem open_labs {H : Type} {enc : TypeId × Value → H} {W : World} {v : Value} {d : DataW H} {p : List MemPlace} {fuel : Nat}
 (h' : DataW.trod enc Tryz.prog W 0 (fun _ => true) true fuel 22 [v] = some (d, p)) :
 ∃ (a : Option Addr) (ls : List Lab) (c : Nat), v = .slice a ls.length c ∧ LabsIn W a ls ∧ allW ls ∧ (ls.length = 0 → a = none → c = 0) ∧ ((d = .nil ∧ ls = []) ∨ ∃ elems spare, d = .slice elems spare ∧ elems.length = ls.length) := by
 rcases Deep.open_slice_pairs Tryz.underlying22 Tryz.underlying70 cellsL rfl rfl (by kernel_rfl) (by kernel_rfl) h' with ⟨e1, e2⟩ | ⟨ad, len', cap', m, n, V0, V1, D0, D1, P0, P1, e1, _, hl, _, hm, e2, hc⟩
 · simp only [List.cons.injEq, and_true] at e1
   subst e1
   simp only [Prod.mk.injEq] at e2
   exact ⟨none, [], 0, rfl, fun i hi => by simp at hi, fun x hx => by simp at hx, fun _ _ => rfl, .inl ⟨e2.1, rfl⟩⟩
 · simp only [List.cons.injEq, and_true] at e1
   subst e1
   simp only [if_true] at hm
   subst hm
   simp only [Prod.mk.injEq] at e2
   have each : ∀ i, i < len' → V0 i = .int .i64 (intOf (V0 i)) ∧ V1 i = .int .u32 ((intOf (V1 i)).toNat : Nat) ∧ okW (intOf (V0 i), (intOf (V1 i)).toNat) := by
    intro i hi
    obtain ⟨_, _, t0, t1⟩ := hc i (by omega)
    obtain ⟨x, f0, _, wx⟩ := DataW.trod_int Tryz.underlying3 t0
    obtain ⟨y, f1, _, wy⟩ := DataW.trod_int Tryz.underlying68 t1
    simp at f0 f1
    have by_ := bounds_u32 wy
    have bx := bounds_i64 wx
    rw [f0, f1]
    refine ⟨rfl, ?_, ?_⟩
    · simp only [intOf]
      congr 1
      omega
    · simp only [okW, intOf]
      omega
   have hlen : ((List.range len').map fun i => (intOf (V0 i), (intOf (V1 i)).toNat)).length = len' := by simp
   refine ⟨some ad, (List.range len').map fun i => (intOf (V0 i), (intOf (V1 i)).toNat), m, by rw [hlen], fun i hi => ?_, fun x hx => ?_, fun _ hh => (by cases hh), .inr ⟨_, _, e2.1, by simp⟩⟩
   · rw [hlen] at hi
     obtain ⟨k1, k2, _, _⟩ := hc i (by omega)
     obtain ⟨v0, v1, _⟩ := each i hi
     obtain ⟨b, o, sp⟩ := ad
     have hsp : sp = none := by
      obtain ⟨k0, _⟩ := hc 0 (by omega)
      cases sp with
      | none => rfl
      | some x =>
        exfalso
        rw [show (⟨b, o, some x⟩ : Addr).add (0 * 2) = ⟨b, o, some x⟩ from rfl] at k0
        unfold World.cell? at k0
        split at k0
        · simp at k0
        · cases k0
     subst hsp
     rw [Addr.add_lit] at k1 k2
     rw [lab_range _ _ hi]
     refine ⟨b, o, rfl, k1.trans (congrArg some v0), ?_⟩
     rw [Nat.add_assoc]
     exact k2.trans (congrArg some v1)
   · obtain ⟨i, hi, rfl⟩ := List.mem_map.1 hx
     exact (each i (List.mem_range.1 hi)).2.2
end Go.Proofs.YtalmanfjiblhcaaGreat.Lt
namespace Go.Proofs.YtalmanfjiblhcaaGreat.Tb
open Go.ChangeShapes Go.WideShapes Go.ChangeAt Go.RowKit
set_option maxRecDepth 100000 in
theorem open_tabs {H : Type} {enc : TypeId × Value → H} {W : World} {v : Value} {d : DataW H} {p : List MemPlace} {fuel : Nat}
 (h' : DataW.trod enc Tryz.prog W 0 (fun _ => true) true fuel 23 [v] = some (d, p)) :
 ∃ (a : Option Addr) (ts : List TV) (c : Nat), v = .slice a ts.length c ∧ TabsIn W a ts ∧ ColsAll W ts ∧ ((d = .nil ∧ ts = []) ∨ ∃ ds spare, d = .slice ds spare ∧ ds.length = ts.length ∧ ∀ i (h : i < ts.length) (h2 : i < ds.length), IsDat ts[i] ds[i]) := by
 rcases Deep.open_slice Tryz.underlying23 h' with ⟨e1, e2⟩ | ⟨ad, len', cap', m, n, D, Pl, e1, _, hl, hcm, hm, e2, hc⟩
 · simp only [List.cons.injEq, and_true] at e1
   subst e1
   simp only [Prod.mk.injEq] at e2
   exact ⟨none, [], 0, rfl, tabsIn_nil _ _, fun i hi => (by simp at hi), .inl ⟨e2.1, rfl⟩⟩
 · simp only [List.cons.injEq, and_true] at e1
   subst e1
   simp only [if_true] at hm
   subst hm
   simp only [Prod.mk.injEq] at e2
   have each : ∀ i, i < m → ∃ x : TV, IsDat x (D i) ∧ ColsIn W x.a x.cs ∧ x.cs.length ≤ x.c ∧ (x.a = none → x.c = 0) ∧ ∃ b o, ad = ⟨b, o, none⟩ ∧ W.cell? ⟨b, o + i * 2, none⟩ = some (.string x.nm) ∧ W.cell? ⟨b, o + i * 2 + 1, none⟩ = some (.slice x.a x.cs.length x.c) := by
    intro i hi
    obtain ⟨cs', h1, h2⟩ := hc i hi
    rw [cellsT] at h1
    obtain ⟨_, hlen, hcell⟩ := World.cells?_some h1
    obtain ⟨xs, k, _, hxy, _, hxl, hf⟩ := DataW.trod_struct Tryz.underlying44 h2
    match xs, hxl, cs', hlen with
    | [y0, y1], _, [v0, v1], _ =>
      have c9 : Tryz.prog.cellsOf 9 = 1 := by kernel_rfl
      have c22 : Tryz.prog.cellsOf 42 = 1 := by kernel_rfl
      have g0 := hf 0 _ rfl
      have g1 := hf 1 _ rfl
      simp [c9, c22] at g0 g1
      obtain ⟨s0, e0, hy0, _⟩ := DataW.trod_string Tryz.underlying9 g0
      obtain ⟨ca, cs, ct, ec, hin, hnil, hcap, _, hcase⟩ := open_cols (d := y1.1) (p := y1.2) g1
      simp at e0
      subst e0 ec
      obtain ⟨b, o, sp⟩ := ad
      have k0 := hcell 0 (by simp)
      have k1 := hcell 1 (by simp)
      have hsp : sp = none := by
       obtain ⟨cs0, z1, _⟩ := hc 0 (by omega)
       rw [cellsT] at z1
       obtain ⟨_, zl, zc⟩ := World.cells?_some z1
       have z0 := zc 0 (by omega)
       exact plain_addr (b := b) (o := o) (z0.trans (List.getElem?_eq_getElem (by omega)))
      subst hsp
      simp only [Addr.add_lit] at k0 k1
      simp only [Prod.mk.injEq] at hxy
      refine ⟨⟨s0, ca, ct, cs⟩, ⟨y1.1, ?_, hcase⟩, hin, hcap, hnil, b, o, rfl, ?_, ?_⟩
      · have := hxy.1
        simp only [List.map_cons, List.map_nil] at this
        rw [this, hy0]
      · simpa using k0
      · simpa [Nat.add_assoc] using k1
   obtain ⟨f, hf⟩ := @Deep.choose_lt TV ⟨⟨⟨#[]⟩, none, 0, []⟩⟩ m _ each
   have hlen : ((List.range len').map f).length = len' := by simp
   refine ⟨some ad, (List.range len').map f, m, by rw [hlen], ?_, ?_, .inr ⟨_, _, e2.1, by simp, ?_⟩⟩
   · intro i hi
     rw [hlen] at hi
     obtain ⟨_, _, _, _, b, o, rfl, h1, h2⟩ := hf i (by omega)
     refine ⟨b, o, rfl, ?_, ?_⟩
     · simp only [List.getElem_map, List.getElem_range]; exact h1
     · simp only [List.getElem_map, List.getElem_range]; exact h2
   · intro i hi
     rw [hlen] at hi
     obtain ⟨_, h1, h2, h3, _⟩ := hf i (by omega)
     simp only [List.getElem_map, List.getElem_range]
     exact ⟨h1, h2, h3⟩
   · intro i hi h2
     rw [hlen] at hi
     have := (hf i (by omega)).1
     simp only [List.getElem_map, List.getElem_range]
     exact this
end Go.Proofs.YtalmanfjiblhcaaGreat.Tb
namespace Go.Proofs.YtalmanfjiblhcaaGreat
open Go.ChangeShapes Go.WideShapes Go.ChangeAt Go.RowKit
theorem bulk_pos {H : Type} (d : DataW H) : 1 ≤ Rows.uptoBulk d := by
 cases d with
 | lit l => cases l <;> simp [Rows.uptoBulk]
 | _ => simp [Rows.uptoBulk]
theorem bulk_num {H : Type} : ∀ (l : List (DataW H)), l.length ≤ Rows.uptoBulkAll l
 | [] => Nat.zero_le _
 | d :: l => by
   have h1 := bulk_num l
   have h2 := bulk_pos d
   simp only [Rows.uptoBulkAll, List.length_cons]; omega
theorem bulk_val {H : Type} : ∀ vs : List Rw.Val, Rw.wtV vs ≤ Rows.uptoBulkAll (vs.map (Rw.datV (H := H)))
 | [] => Nat.zero_le _
 | v :: vs => by
   have := bulk_val (H := H) vs
   have e : v.t.size = v.t.data.toList.length := by rw [Tb.size_lst]; rfl
   simp only [List.map_cons, Rows.uptoBulkAll, Rw.datV, Rows.uptoBulk, Rw.wtV]
   omega
theorem bulk_w {H : Type} {x : WV} {d : DataW H} (h : IsW x d) : Rw.wtV x.vs + 3 ≤ Rows.uptoBulk d := by
 obtain ⟨dv, rfl, ⟨rfl, e⟩ | ⟨spare, rfl⟩⟩ := h
 · rw [e]; simp only [Rows.uptoBulk, Rows.uptoBulkAll, Rw.wtV]; omega
 · have := bulk_val (H := H) x.vs
   simp only [Rows.uptoBulk, Rows.uptoBulkAll]; omega
theorem bulk_wl {H : Type} : ∀ (ws : List WV) (es : List (DataW H)), es.length = ws.length → (∀ i (h : i < ws.length) (h2 : i < es.length), IsW ws[i] es[i]) → 3 * ws.length ≤ Rows.uptoBulkAll es ∧ ∀ x ∈ ws, Rw.wtV x.vs ≤ Rows.uptoBulkAll es
 | [], es, _, _ => ⟨Nat.zero_le _, fun _ h => by cases h⟩
 | x :: ws, [], h, _ => by simp at h
 | x :: ws, d :: es, h, hi => by
   have h0 := bulk_w (hi 0 (by simp) (by simp))
   simp only [List.getElem_cons_zero] at h0
   obtain ⟨h1, h2⟩ := bulk_wl ws es (by simpa using h) fun i a b => by have := hi (i + 1) (by simpa using a) (by simpa using b); simpa using this
   simp only [Rows.uptoBulkAll, List.length_cons]
   refine ⟨by omega, fun y hy => ?_⟩
   rcases List.mem_cons.1 hy with rfl | hy
   · omega
   · have := h2 y hy; omega
theorem bulk_ws {H : Type} {ws : List WV} {d : DataW H} (h : IsWs ws d) : 3 * ws.length ≤ Rows.uptoBulk d ∧ ∀ x ∈ ws, Rw.wtV x.vs ≤ Rows.uptoBulk d := by
 rcases h with ⟨_, rfl⟩ | ⟨es, spare, rfl, hl, hi⟩
 · exact ⟨Nat.zero_le _, fun _ h => by cases h⟩
 · obtain ⟨h1, h2⟩ := bulk_wl ws es hl hi
   simp only [Rows.uptoBulk]
   exact ⟨by omega, fun x hx => by have := h2 x hx; omega⟩
theorem bulk_cm {H : Type} {y : CmV} {d : DataW H} (h : IsCm y d) : 3 * y.ws.length ≤ Rows.uptoBulk d ∧ ∀ x ∈ y.ws, Rw.wtV x.vs ≤ Rows.uptoBulk d := by
 obtain ⟨dw, rfl, hw⟩ := h
 obtain ⟨h1, h2⟩ := bulk_ws hw
 simp only [Rows.uptoBulk, Rows.uptoBulkAll]
 exact ⟨by omega, fun x hx => by have := h2 x hx; omega⟩
theorem bulk_cl {H : Type} : ∀ (cs : List CmV) (es : List (DataW H)), es.length = cs.length → (∀ i (h : i < cs.length) (h2 : i < es.length), IsCm cs[i] es[i]) → 3 * wrN cs ≤ Rows.uptoBulkAll es ∧ ∀ y ∈ cs, ∀ x ∈ y.ws, Rw.wtV x.vs ≤ Rows.uptoBulkAll es
 | [], es, _, _ => ⟨Nat.zero_le _, fun _ h => by cases h⟩
 | x :: ws, [], h, _ => by simp at h
 | y :: cs, d :: es, h, hi => by
   have h0 := bulk_cm (hi 0 (by simp) (by simp))
   simp only [List.getElem_cons_zero] at h0
   obtain ⟨h1, h2⟩ := bulk_cl cs es (by simpa using h) fun i a b => by have := hi (i + 1) (by simpa using a) (by simpa using b); simpa using this
   have e : wrN (y :: cs) = y.ws.length + wrN cs := by simp [wrN]
   rw [e]
   simp only [Rows.uptoBulkAll]
   refine ⟨by omega, fun z hz x hx => ?_⟩
   rcases List.mem_cons.1 hz with rfl | hz
   · have := h0.2 x hx; omega
   · have := h2 z hz x hx; omega
theorem bulk_cms {H : Type} {cs : List CmV} {d : DataW H} (h : IsCms cs d) : 3 * wrN cs ≤ Rows.uptoBulk d ∧ ∀ y ∈ cs, ∀ x ∈ y.ws, Rw.wtV x.vs ≤ Rows.uptoBulk d := by
 rcases h with ⟨_, rfl⟩ | ⟨es, spare, rfl, hl, hi⟩
 · exact ⟨Nat.zero_le _, fun _ h => by cases h⟩
 · obtain ⟨h1, h2⟩ := bulk_cl cs es hl hi
   simp only [Rows.uptoBulk]
   exact ⟨by omega, fun y hy x hx => by have := h2 y hy x hx; omega⟩
theorem bulk_labs {H : Type} {d : DataW H} {ls : List Lt.Lab} (h : (d = .nil ∧ ls = []) ∨ ∃ elems spare, d = .slice elems spare ∧ elems.length = ls.length) : ls.length ≤ Rows.uptoBulk d := by
 rcases h with ⟨_, rfl⟩ | ⟨es, spare, rfl, hl⟩
 · simp
 · have := bulk_num es
   simp only [Rows.uptoBulk]; omega
theorem bulk_tab {H : Type} {t : Tb.TV} {d : DataW H} (h : Tb.IsDat t d) : t.cs.length ≤ Rows.uptoBulk d := by
 obtain ⟨d1, rfl, ⟨rfl, e⟩ | ⟨spare, rfl⟩⟩ := h
 · rw [e]; simp
 · have := bulk_num (t.cs.map (Tb.datC (H := H)))
   rw [List.length_map] at this
   simp only [Rows.uptoBulk, Rows.uptoBulkAll]; omega
theorem bulk_mem {H : Type} {d : DataW H} : ∀ {l : List (DataW H)}, d ∈ l → Rows.uptoBulk d ≤ Rows.uptoBulkAll l
 | x :: l, h => by
   simp only [Rows.uptoBulkAll]
   rcases List.mem_cons.1 h with rfl | h
   · omega
   · have := bulk_mem h; omega
theorem bulk_tabs {H : Type} {d : DataW H} {ts : List Tb.TV} (h : (d = .nil ∧ ts = []) ∨ ∃ es spare, d = .slice es spare ∧ es.length = ts.length ∧ ∀ i (h : i < ts.length) (h2 : i < es.length), Tb.IsDat ts[i] es[i]) : ts.length ≤ Rows.uptoBulk d ∧ ∀ t ∈ ts, t.cs.length ≤ Rows.uptoBulk d := by
 rcases h with ⟨_, rfl⟩ | ⟨es, spare, rfl, hl, hi⟩
 · exact ⟨by simp, fun _ h => by cases h⟩
 · have := bulk_num es
   simp only [Rows.uptoBulk]
   refine ⟨by omega, fun t ht => ?_⟩
   obtain ⟨i, hi2, rfl⟩ := List.getElem_of_mem ht
   have h1 := bulk_tab (hi i hi2 (by omega))
   have h2 := bulk_mem (List.getElem_mem (show i < es.length by omega))
   omega
theorem cellsCase : Tryz.prog.cellsOf 25 = 2 := by kernel_rfl
set_option maxRecDepth 100000 in
theorem open_case {H : Type} {enc : TypeId × Value → H} {W : World} {base : Nat} {v : Value} {d : DataW H} {p : List MemPlace}
 (hv : Value.okWide Tryz.prog W .any base 25 v) (h : DataW.Trod enc Tryz.prog W 0 (fun _ => true) true 25 v d p) :
 ∃ (la ta : Option Addr) (ls : List Lt.Lab) (ts : List Tb.TV) (lc tc : Nat), v = .agg #[.slice la ls.length lc, .slice ta ts.length tc] ∧ Lt.LabsIn W la ls ∧ Lt.allW ls ∧ (la = none → lc = 0) ∧ Tb.TabsIn W ta ts ∧ Tb.ColsAll W ts ∧
  ls.length ≤ Rows.uptoBulk d ∧ ts.length ≤ Rows.uptoBulk d ∧ ∀ t ∈ ts, t.cs.length ≤ Rows.uptoBulk d := by
 obtain ⟨cells, rfl, hsz⟩ := okWide_struct Tryz.underlying25 hv
 obtain ⟨v0, v1, rfl⟩ := Tb.array2 (hsz.trans cellsCase)
 obtain ⟨fuel, h⟩ := h
 obtain ⟨xs, k, _, hxy, _, hxl, hf⟩ := DataW.trod_struct Tryz.underlying25 h
 match xs, hxl with
 | [y0, y1], _ =>
   have cL : Tryz.prog.cellsOf 22 = 1 := by kernel_rfl
   have cT : Tryz.prog.cellsOf 23 = 1 := by kernel_rfl
   have g0 := hf 0 _ rfl
   have g1 := hf 1 _ rfl
   simp [cL, cT, Value.cells] at g0 g1
   obtain ⟨la, ls, lc, rfl, hl1, hl2, hl3, hl4⟩ := Lt.open_labs (d := y0.1) (p := y0.2) g0
   obtain ⟨ta, ts, tc, rfl, ht1, ht2, ht3⟩ := Tb.open_tabs (d := y1.1) (p := y1.2) g1
   simp at hxy
   have b1 := bulk_labs hl4
   obtain ⟨b2, b3⟩ := bulk_tabs ht3
   refine ⟨la, ta, ls, ts, lc, tc, rfl, hl1, hl2, fun e => ?_, ht1, ht2, ?_, ?_, fun t ht => ?_⟩
   · refine hl3 (Nat.eq_zero_of_not_pos fun h0 => ?_) e
     obtain ⟨_, _, e2, _⟩ := hl1 0 h0
     rw [e] at e2; cases e2
   all_goals (rw [hxy.1]; simp only [Rows.uptoBulk, Rows.uptoBulkAll])
   · omega
   · omega
   · have := b3 t ht; omega
end Go.Proofs.YtalmanfjiblhcaaGreat
