/- A list of tokens among the arguments opened. -/
import Derived.Test.YtfmpnakonffkcaaGreatDoorLxDoorE
import Derived.Test.YtfmpnakonffkcaaGreatDoorLxPrint3
import Derived.HandedShaped
import Derived.ChangeSlices
import Derived.Deep.Slices
namespace Go.Proofs.YtfmpnakonffkcaaGreatDoor
open Go.ChangeShapes Go.WideShapes Go.ChangeAt Go.RowKit

theorem laidOut : laidOutB Tryz.prog = true := by kernel_rfl
theorem cellsR : Tryz.prog.cellsOf 49 = 4 := by kernel_rfl
/-- A token as data. -/
def datT {H : Type} (t : Tk) : DataW H := .agg [.lit (.int .i64 t.k), .lit (.string t.tx.data.toList), .lit (.int .i64 t.n), .lit (.int .i64 t.p)]
/-- What is handed in has a number that is an int. -/
def WfT (t : Tk) : Prop := inI t.n ∧ t.tx.size ≤ maxLen
theorem plain_addr {W : World} {b o : Nat} {sp : Option Nat} {v : Value} (h : W.cell? ⟨b, o, sp⟩ = some v) : sp = none := by
  cases sp with
  | none => rfl
  | some x =>
    unfold World.cell? at h
    split at h
    · simp at h
    · cases h
set_option maxRecDepth 100000 in
/-- A list of tokens that is handed in. -/
theorem open_tokens {H : Type} {enc : TypeId × Value → H} {W : World} {base : Nat} {v : Value} {d : DataW H} {p : List MemPlace} {tVs : TypeId} (hT : Tryz.prog.underlying tVs = some (.slice 49))
    (hv : Value.okWide Tryz.prog W .any base tVs v) (h : DataW.Trod enc Tryz.prog W 0 (fun _ => true) true tVs v d p) :
    ∃ (a : Option Addr) (vs : List Tk) (c : Nat), v = .slice a vs.length c ∧ TksIn W a vs ∧ (∀ x ∈ vs, WfT x) ∧ vs.length ≤ c ∧ c ≤ maxLen ∧ (a = none → c = 0) ∧ ((d = .nil ∧ vs = []) ∨ ∃ spare, d = .slice (vs.map datT) spare) := by
  obtain ⟨a, len, cap, rfl⟩ := okWide_slice hT hv
  obtain ⟨fuel, h⟩ := h
  have h' : DataW.trod enc Tryz.prog W 0 (fun _ => true) true fuel tVs [.slice a len cap] = some (d, p) := by simpa [Value.cells] using h
  rcases Deep.open_slice hT h' with ⟨e1, e2⟩ | ⟨ad, len', cap', m, n, D, Pl, e1, _, hl, hcm, hm, e2, hc⟩
  · simp only [List.cons.injEq, and_true, Value.slice.injEq] at e1
    obtain ⟨rfl, rfl, rfl⟩ := e1
    simp only [Prod.mk.injEq] at e2
    exact ⟨none, [], 0, rfl, tksIn_nil _ _, fun x hx => by simp at hx, Nat.le_refl _, Nat.zero_le _, fun _ => rfl, .inl ⟨e2.1, rfl⟩⟩
  · simp only [List.cons.injEq, and_true, Value.slice.injEq] at e1
    obtain ⟨rfl, rfl, rfl⟩ := e1
    simp only [if_true] at hm
    subst hm
    simp only [Prod.mk.injEq] at e2
    have each : ∀ i, i < m → ∃ x : Tk, WfT x ∧ D i = datT x ∧ ∃ b o, ad = ⟨b, o, none⟩ ∧ InT W b (o + i * 4) x := by
      intro i hi
      obtain ⟨cs', h1, h2⟩ := hc i hi
      rw [cellsR] at h1
      obtain ⟨_, hlen, hcell⟩ := World.cells?_some h1
      obtain ⟨xs, k, _, hxy, _, hxl, hf⟩ := DataW.trod_struct Tryz.underlying49 h2
      match xs, hxl, cs', hlen with
      | [y0, y1, y2, y3], _, [v0, v1, v2, v3], _ =>
        have c3 : Tryz.prog.cellsOf 3 = 1 := by kernel_rfl
        have c9 : Tryz.prog.cellsOf 9 = 1 := by kernel_rfl
        have g0 := hf 0 _ rfl
        have g1 := hf 1 _ rfl
        have g2 := hf 2 _ rfl
        have g3 := hf 3 _ rfl
        simp [c3, c9] at g0 g1 g2 g3
        obtain ⟨x0, f0, rfl, w0⟩ := DataW.trod_int Tryz.underlying3 g0
        obtain ⟨x1, f1, rfl, w1⟩ := DataW.trod_string Tryz.underlying9 g1
        obtain ⟨x2, f2, rfl, w2⟩ := DataW.trod_int Tryz.underlying3 g2
        obtain ⟨x3, f3, rfl, w3⟩ := DataW.trod_int Tryz.underlying3 g3
        simp at f0 f1 f2 f3
        subst f0 f1 f2 f3
        obtain ⟨b, o, sp⟩ := ad
        have k0 := hcell 0 (by simp)
        have k1 := hcell 1 (by simp)
        have k2 := hcell 2 (by simp)
        have k3 := hcell 3 (by simp)
        have hsp : sp = none := by
          obtain ⟨cs0, z1, _⟩ := hc 0 (by omega)
          rw [cellsR] at z1
          obtain ⟨_, zl, zc⟩ := World.cells?_some z1
          have z0 := zc 0 (by omega)
          exact plain_addr (b := b) (o := o) (z0.trans (List.getElem?_eq_getElem (by omega)))
        subst hsp
        simp only [Addr.add_lit] at k0 k1 k2 k3
        simp only [Prod.mk.injEq] at hxy
        refine ⟨⟨x0, x1, x2, x3⟩, ⟨i64_in w2, w1⟩, by simpa [datT] using hxy.1, b, o, rfl, ?_, ?_, ?_, ?_⟩
        · simpa using k0
        · simpa [Nat.add_assoc] using k1
        · simpa [Nat.add_assoc] using k2
        · simpa [Nat.add_assoc] using k3
    obtain ⟨f, hf⟩ := @Deep.choose_lt Tk ⟨tk0⟩ m _ each
    have hlen : ((List.range len).map f).length = len := by simp
    refine ⟨some ad, (List.range len).map f, m, by rw [hlen], ?_, ?_, by rw [hlen]; exact hl, hcm, fun hh => (by cases hh), .inr ⟨(List.range (m - len)).map (fun j => D (len + j)), e2.1.trans ?_⟩⟩
    · intro i hi
      rw [hlen] at hi
      obtain ⟨_, _, b, o, rfl, hin⟩ := hf i (by omega)
      refine ⟨b, o, rfl, ?_⟩
      simp only [List.getElem_map, List.getElem_range]
      exact hin
    · intro x hx
      obtain ⟨i, hi, rfl⟩ := List.mem_map.1 hx
      exact (hf i (by have := List.mem_range.1 hi; omega)).1
    · rw [List.map_map, List.map_congr_left (g := datT ∘ f) (fun i hi => (hf i (by have := List.mem_range.1 hi; omega)).2.1)]
theorem bulk_tks {H : Type} : ∀ ts : List Tk, ts.length ≤ Rows.uptoBulkAll (ts.map (datT (H := H))) ∧ ∀ t ∈ ts, t.tx.size ≤ Rows.uptoBulkAll (ts.map (datT (H := H)))
  | [] => ⟨Nat.zero_le _, fun t h => by simp at h⟩
  | v :: vs => by
    obtain ⟨h1, h2⟩ := bulk_tks (H := H) vs
    have e : Rows.uptoBulkAll ((v :: vs).map (datT (H := H))) = (1 + (v.tx.data.toList.length + 1) + 1 + 1 + 1) + Rows.uptoBulkAll (vs.map (datT (H := H))) := by
      simp only [List.map_cons, Rows.uptoBulkAll, datT, Rows.uptoBulk]; omega
    rw [e]
    refine ⟨by rw [List.length_cons]; omega, fun t ht => ?_⟩
    rcases List.mem_cons.1 ht with rfl | ht
    · rw [size_lst]; show t.tx.data.toList.length ≤ _; omega
    · have := h2 t ht; omega
theorem bulk_fit {H : Type} {d : DataW H} {ts : List Tk} (h : Rows.uptoBulk d ≤ 1048576) (hw : ∀ x ∈ ts, WfT x) (hcase : (d = .nil ∧ ts = []) ∨ ∃ spare, d = .slice (ts.map datT) spare) : ts.length ≤ 1048576 ∧ ∀ t ∈ ts, FitT t := by
  rcases hcase with ⟨_, rfl⟩ | ⟨spare, rfl⟩
  · exact ⟨by simp, fun t ht => by simp at ht⟩
  · obtain ⟨h1, h2⟩ := bulk_tks (H := H) ts
    simp only [Rows.uptoBulk] at h
    exact ⟨by omega, fun t ht => ⟨(hw t ht).1, by have := h2 t ht; omega⟩⟩
end Go.Proofs.YtfmpnakonffkcaaGreatDoor
