/- What the laws' rows share: values, texts and numbers among the arguments opened; as many as a machine has room for. -/
import Derived.Test.YtlldamgnfaikhaaDoorRows
import Derived.Test.YtlldamgnfaikhaaDoorOMem
import Derived.ProofKit
import Derived.OpenShut
import Derived.SizedLaws
import Derived.HandedShaped
import Derived.Carry
import Derived.ChangeSlices
import Derived.Shelf.Vars
import Derived.Deep.Slices
namespace Go.Proofs.YtlldamgnfaikhaaDoor
open Go.ChangeShapes Go.WideShapes Go.ChangeAt Go.RowKit

theorem own : ownKnob Tryd.prog.godebug = none := by kernel_rfl
theorem laidOut : laidOutB Tryd.prog = true := by kernel_rfl
theorem cellsV : Tryd.prog.cellsOf 47 = 4 := by kernel_rfl
theorem bytesV : Tryd.prog.bytesOf 47 = 40 := by kernel_rfl
theorem i64_in {x : Int} (h : (Lit.int .i64 x).wf = true) : inI x := by
  simp only [Lit.wf, Bool.and_eq_true, decide_eq_true_eq] at h
  exact h
theorem string_lim {H : Type} {ts : List TypeId} {ds : List (DataW H)} {s : ByteArray} (h : (DataW.weightsEach Tryd.prog ts ds).all (· ≤ reachBytes) = true) {j : Nat} {t : TypeId} (ht : ts[j]? = some t) (hd : ds[j]? = some (.lit (.string s.data.toList))) : s.size ≤ 140737488351232 := by
  have := sized_string h ht hd
  have e3 : reachBytes = 140737488351232 := by decide
  rw [Array.length_toList] at this
  show s.data.size ≤ _
  omega
theorem plain_addr {W : World} {b o : Nat} {sp : Option Nat} {v : Value} (h : W.cell? ⟨b, o, sp⟩ = some v) : sp = none := by
  cases sp with
  | none => rfl
  | some x =>
    unfold World.cell? at h
    split at h
    · simp at h
    · cases h
set_option maxRecDepth 100000 in
/-- A list of values that is handed in. -/
theorem open_values {H : Type} {enc : TypeId × Value → H} {W : World} {base : Nat} {v : Value} {d : DataW H} {p : List MemPlace} {tVs : TypeId} (hT : Tryd.prog.underlying tVs = some (.slice 47))
    (hv : Value.okWide Tryd.prog W .any base tVs v) (h : DataW.Trod enc Tryd.prog W 0 (fun _ => true) true tVs v d p) :
    ∃ (a : Option Addr) (vs : List Val) (c : Nat), v = .slice a vs.length c ∧ ValsIn W a vs ∧ (∀ x ∈ vs, WfV x) ∧ vs.length ≤ c ∧ c ≤ maxLen ∧ (a = none → c = 0) ∧ ((d = .nil ∧ vs = []) ∨ ∃ spare, d = .slice (vs.map datV) spare) := by
  obtain ⟨a, len, cap, rfl⟩ := okWide_slice hT hv
  obtain ⟨fuel, h⟩ := h
  have h' : DataW.trod enc Tryd.prog W 0 (fun _ => true) true fuel tVs [.slice a len cap] = some (d, p) := by simpa [Value.cells] using h
  rcases Deep.open_slice hT h' with ⟨e1, e2⟩ | ⟨ad, len', cap', m, n, D, Pl, e1, _, hl, hcm, hm, e2, hc⟩
  · simp only [List.cons.injEq, and_true, Value.slice.injEq] at e1
    obtain ⟨rfl, rfl, rfl⟩ := e1
    simp only [Prod.mk.injEq] at e2
    exact ⟨none, [], 0, rfl, valsIn_nil _ _, fun x hx => by simp at hx, Nat.le_refl _, Nat.zero_le _, fun _ => rfl, .inl ⟨e2.1, rfl⟩⟩
  · simp only [List.cons.injEq, and_true, Value.slice.injEq] at e1
    obtain ⟨rfl, rfl, rfl⟩ := e1
    simp only [if_true] at hm
    subst hm
    simp only [Prod.mk.injEq] at e2
    have each : ∀ i, i < m → ∃ x : Val, WfV x ∧ D i = datV x ∧ ∃ b o, ad = ⟨b, o, none⟩ ∧ In4 W b (o + i * 4) x.k x.n x.t x.b := by
      intro i hi
      obtain ⟨cs', h1, h2⟩ := hc i hi
      rw [cellsV] at h1
      obtain ⟨_, hlen, hcell⟩ := World.cells?_some h1
      obtain ⟨xs, k, _, hxy, _, hxl, hf⟩ := DataW.trod_struct Tryd.underlying47 h2
      match xs, hxl, cs', hlen with
      | [y0, y1, y2, y3], _, [v0, v1, v2, v3], _ =>
        have c3 : Tryd.prog.cellsOf 3 = 1 := by kernel_rfl
        have c9 : Tryd.prog.cellsOf 9 = 1 := by kernel_rfl
        have c4 : Tryd.prog.cellsOf 4 = 1 := by kernel_rfl
        have g0 := hf 0 _ rfl
        have g1 := hf 1 _ rfl
        have g2 := hf 2 _ rfl
        have g3 := hf 3 _ rfl
        simp [c3, c4, c9] at g0 g1 g2 g3
        obtain ⟨x0, f0, rfl, w0⟩ := DataW.trod_int Tryd.underlying3 g0
        obtain ⟨x1, f1, rfl, w1⟩ := DataW.trod_int Tryd.underlying3 g1
        obtain ⟨x2, f2, rfl, w2⟩ := DataW.trod_string Tryd.underlying9 g2
        obtain ⟨x3, f3, rfl⟩ := DataW.trod_bool Tryd.underlying4 g3
        simp at f0 f1 f2 f3
        subst f0 f1 f2 f3
        obtain ⟨b, o, sp⟩ := ad
        have k0 := hcell 0 (by simp)
        have k1 := hcell 1 (by simp)
        have k2 := hcell 2 (by simp)
        have k3 := hcell 3 (by simp)
        have hsp : sp = none := by
          obtain ⟨cs0, z1, _⟩ := hc 0 (by omega)
          rw [cellsV] at z1
          obtain ⟨_, zl, zc⟩ := World.cells?_some z1
          have z0 := zc 0 (by omega)
          exact plain_addr (b := b) (o := o) (z0.trans (List.getElem?_eq_getElem (by omega)))
        subst hsp
        simp only [Addr.add_lit] at k0 k1 k2 k3
        simp only [Prod.mk.injEq] at hxy
        refine ⟨⟨x0, x1, x2, x3⟩, ⟨i64_in w0, i64_in w1, w2⟩, by simpa [datV] using hxy.1, b, o, rfl, ?_, ?_, ?_, ?_⟩
        · simpa using k0
        · simpa [Nat.add_assoc] using k1
        · simpa [Nat.add_assoc] using k2
        · simpa [Nat.add_assoc] using k3
    obtain ⟨f, hf⟩ := @Deep.choose_lt Val ⟨⟨0, 0, ⟨#[]⟩, false⟩⟩ m _ each
    have hlen : ((List.range len).map f).length = len := by simp
    refine ⟨some ad, (List.range len).map f, m, by rw [hlen], ?_, ?_, by rw [hlen]; exact hl, hcm, fun hh => (by cases hh), .inr ⟨(List.range (m - len)).map (fun j => D (len + j)), e2.1.trans ?_⟩⟩
    · intro i hi
      rw [hlen] at hi
      obtain ⟨_, _, b, o, rfl, hin⟩ := hf i (by omega)
      refine ⟨b, o, rfl, ?_⟩
      simp only [List.getElem_map, List.getElem_range]
      exact hin
    · intro x hx
      obtain ⟨i, hi, rfl⟩ := List.mem_map.1 hx
      exact (hf i (by have := List.mem_range.1 hi; omega)).1
    · rw [List.map_map, List.map_congr_left (g := datV ∘ f) (fun i hi => (hf i (by have := List.mem_range.1 hi; omega)).2.1)]
/-- As many as a machine has room for. -/
theorem values_lim {H : Type} {ts : List TypeId} {ds : List (DataW H)} {d : DataW H} {vs : List Val} (h : (DataW.weightsEach Tryd.prog ts ds).all (· ≤ reachBytes) = true) {j : Nat} (ht : ts[j]? = some 25) (hd : ds[j]? = some d)
    (hcase : (d = .nil ∧ vs = []) ∨ ∃ spare, d = .slice (vs.map datV) spare) : vs.length * 40 ≤ 140737488351232 := by
  rcases hcase with ⟨_, rfl⟩ | ⟨spare, rfl⟩
  · simp
  · have := sized_slice h ht hd Tryd.underlying25
    rw [bytesV] at this
    have e3 : reachBytes = 140737488351232 := by decide
    rw [List.length_map] at this
    omega
end Go.Proofs.YtlldamgnfaikhaaDoor
