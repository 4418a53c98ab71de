/- What the laws' rows share: a table among the arguments opened; how much there is of it. -/
import Derived.Test.YtlgnllnjhpihdaaDoorRows
import Derived.Test.YtlgnllnjhpihdaaDoorTbMem
import Derived.ProofKit
import Derived.OpenShut
import Derived.SizedLaws
import Derived.HandedShaped
import Derived.Carry
import Derived.ChangeSlices
import Derived.Shelf.Vars
import Derived.Deep.Slices
namespace Go.Proofs.YtlgnllnjhpihdaaDoor
open Go.ChangeShapes Go.WideShapes Go.ChangeAt Go.RowKit

theorem own : ownKnob Tryd.prog.godebug = none := by kernel_rfl
theorem laidOut : laidOutB Tryd.prog = true := by kernel_rfl
theorem i64_in {x : Int} (h : (Lit.int .i64 x).wf = true) : inI x := by
  simp only [Lit.wf, Bool.and_eq_true, decide_eq_true_eq] at h
  exact h
theorem string_lim {H : Type} {ts : List TypeId} {ds : List (DataW H)} {s : ByteArray} (h : (DataW.weightsEach Tryd.prog ts ds).all (· ≤ reachBytes) = true) {j : Nat} {t : TypeId} (ht : ts[j]? = some t) (hd : ds[j]? = some (.lit (.string s.data.toList))) : s.size ≤ 140737488351232 := by
  have := sized_string h ht hd
  have e3 : reachBytes = 140737488351232 := by decide
  rw [Array.length_toList] at this
  show s.data.size ≤ _
  omega
theorem plain_addr {W : World} {b o : Nat} {sp : Option Nat} {v : Value} (h : W.cell? ⟨b, o, sp⟩ = some v) : sp = none := by
  cases sp with
  | none => rfl
  | some x =>
    unfold World.cell? at h
    split at h
    · simp at h
    · cases h
theorem cellsC : Tryd.prog.cellsOf 55 = 4 := by kernel_rfl
/-- A column as data. -/
def datC {H : Type} (c : Col) : DataW H := .agg [.lit (.string c.nm.data.toList), .lit (.int .i64 c.k), .lit (.bool c.key), .lit (.bool c.nul)]
set_option maxRecDepth 100000 in
/-- Columns behind a slice that is handed in. -/
theorem open_cols {H : Type} {enc : TypeId × Value → H} {W : World} {v : Value} {d : DataW H} {p : List MemPlace} {fuel : Nat}
    (h' : DataW.trod enc Tryd.prog W 0 (fun _ => true) true fuel 22 [v] = some (d, p)) :
    ∃ (a : Option Addr) (cs : List Col) (ct : Nat), v = .slice a cs.length ct ∧ ColsIn W a cs ∧ (a = none → ct = 0) ∧ cs.length ≤ ct ∧ (∀ c ∈ cs, inI c.k) ∧ ((d = .nil ∧ cs = []) ∨ ∃ spare, d = .slice (cs.map datC) spare) := by
  rcases Deep.open_slice Tryd.underlying22 h' with ⟨e1, e2⟩ | ⟨ad, len', cap', m, n, D, Pl, e1, _, hl, hcm, hm, e2, hc⟩
  · simp only [List.cons.injEq, and_true] at e1
    subst e1
    simp only [Prod.mk.injEq] at e2
    exact ⟨none, [], 0, rfl, colsIn_nil _ _, fun _ => rfl, Nat.le_refl _, fun c hc => (by simp at hc), .inl ⟨e2.1, rfl⟩⟩
  · simp only [List.cons.injEq, and_true] at e1
    subst e1
    simp only [if_true] at hm
    subst hm
    simp only [Prod.mk.injEq] at e2
    have each : ∀ i, i < m → ∃ x : Col, inI x.k ∧ D i = datC x ∧ ∃ b o, ad = ⟨b, o, none⟩ ∧ InC W b (o + i * 4) x := by
      intro i hi
      obtain ⟨cs', h1, h2⟩ := hc i hi
      rw [cellsC] at h1
      obtain ⟨_, hlen, hcell⟩ := World.cells?_some h1
      obtain ⟨xs, k, _, hxy, _, hxl, hf⟩ := DataW.trod_struct Tryd.underlying55 h2
      match xs, hxl, cs', hlen with
      | [y0, y1, y2, y3], _, [v0, v1, v2, v3], _ =>
        have c3 : Tryd.prog.cellsOf 3 = 1 := by kernel_rfl
        have c9 : Tryd.prog.cellsOf 9 = 1 := by kernel_rfl
        have c4 : Tryd.prog.cellsOf 4 = 1 := by kernel_rfl
        have g0 := hf 0 _ rfl
        have g1 := hf 1 _ rfl
        have g2 := hf 2 _ rfl
        have g3 := hf 3 _ rfl
        simp [c3, c4, c9] at g0 g1 g2 g3
        obtain ⟨x0, f0, rfl, w0⟩ := DataW.trod_string Tryd.underlying9 g0
        obtain ⟨x1, f1, rfl, w1⟩ := DataW.trod_int Tryd.underlying3 g1
        obtain ⟨x2, f2, rfl⟩ := DataW.trod_bool Tryd.underlying4 g2
        obtain ⟨x3, f3, rfl⟩ := DataW.trod_bool Tryd.underlying4 g3
        simp at f0 f1 f2 f3
        subst f0 f1 f2 f3
        obtain ⟨b, o, sp⟩ := ad
        have k0 := hcell 0 (by simp)
        have k1 := hcell 1 (by simp)
        have k2 := hcell 2 (by simp)
        have k3 := hcell 3 (by simp)
        have hsp : sp = none := by
          obtain ⟨cs0, z1, _⟩ := hc 0 (by omega)
          rw [cellsC] at z1
          obtain ⟨_, zl, zc⟩ := World.cells?_some z1
          have z0 := zc 0 (by omega)
          exact plain_addr (b := b) (o := o) (z0.trans (List.getElem?_eq_getElem (by omega)))
        subst hsp
        simp only [Addr.add_lit] at k0 k1 k2 k3
        simp only [Prod.mk.injEq] at hxy
        refine ⟨⟨x0, x1, x2, x3⟩, i64_in w1, by simpa [datC] using hxy.1, b, o, rfl, ?_, ?_, ?_, ?_⟩
        · simpa using k0
        · simpa [Nat.add_assoc] using k1
        · simpa [Nat.add_assoc] using k2
        · simpa [Nat.add_assoc] using k3
    obtain ⟨f, hf⟩ := @Deep.choose_lt Col ⟨⟨⟨#[]⟩, 0, false, false⟩⟩ m _ each
    have hlen : ((List.range len').map f).length = len' := by simp
    refine ⟨some ad, (List.range len').map f, m, by rw [hlen], ?_, fun hh => (by cases hh), by rw [hlen]; exact hl, ?_, .inr ⟨(List.range (m - len')).map (fun j => D (len' + j)), e2.1.trans ?_⟩⟩
    · intro i hi
      rw [hlen] at hi
      obtain ⟨_, _, b, o, rfl, hin⟩ := hf i (by omega)
      refine ⟨b, o, rfl, ?_⟩
      simp only [List.getElem_map, List.getElem_range]
      exact hin
    · intro c hc
      obtain ⟨i, hi, rfl⟩ := List.mem_map.1 hc
      exact (hf i (by have := List.mem_range.1 hi; omega)).1
    · rw [List.map_map, List.map_congr_left (g := datC ∘ f) (fun i hi => (hf i (by have := List.mem_range.1 hi; omega)).2.1)]
theorem cellsT : Tryd.prog.cellsOf 24 = 2 := by kernel_rfl
theorem array2 {α : Type} {a : Array α} (h : a.size = 2) : ∃ x y, a = #[x, y] := by
  obtain ⟨l⟩ := a
  match l, h with
  | [x, y], _ => exact ⟨x, y, rfl⟩
set_option maxRecDepth 100000 in
/-- A table that is handed in. -/
theorem open_table {H : Type} {enc : TypeId × Value → H} {W : World} {base : Nat} {v : Value} {d : DataW H} {p : List MemPlace}
    (hv : Value.okWide Tryd.prog W .any base 24 v) (h : DataW.Trod enc Tryd.prog W 0 (fun _ => true) true 24 v d p) :
    ∃ (nm : ByteArray) (a : Option Addr) (cs : List Col) (ct : Nat) (d0 d1 : DataW H), v = .agg #[.string nm, .slice a cs.length ct] ∧ ColsIn W a cs ∧ (a = none → ct = 0) ∧ cs.length ≤ ct ∧ (∀ c ∈ cs, inI c.k) ∧ d = .agg [d0, d1] ∧ d0 = .lit (.string nm.data.toList) ∧ ((d1 = .nil ∧ cs = []) ∨ ∃ spare, d1 = .slice (cs.map datC) spare) := by
  obtain ⟨cells, rfl, hsz⟩ := okWide_struct Tryd.underlying24 hv
  obtain ⟨v0, v1, rfl⟩ := array2 (hsz.trans cellsT)
  obtain ⟨fuel, h⟩ := h
  obtain ⟨xs, k, _, hxy, _, hxl, hf⟩ := DataW.trod_struct Tryd.underlying24 h
  match xs, hxl with
  | [y0, y1], _ =>
    have c9 : Tryd.prog.cellsOf 9 = 1 := by kernel_rfl
    have c22 : Tryd.prog.cellsOf 22 = 1 := by kernel_rfl
    have g0 := hf 0 _ rfl
    have g1 := hf 1 _ rfl
    simp [c9, c22, Value.cells] at g0 g1
    obtain ⟨s0, e0, hy0, _⟩ := DataW.trod_string Tryd.underlying9 g0
    obtain ⟨a, cs, ct, rfl, hin, hnil, hcap, hki, hcase⟩ := open_cols (d := y1.1) (p := y1.2) g1
    simp at e0
    subst e0
    simp at hxy
    exact ⟨s0, a, cs, ct, _, _, rfl, hin, hnil, hcap, hki, hxy.1, (by rw [hy0]), hcase⟩
theorem bulk_cols {H : Type} : ∀ cs : List Col, cs.length ≤ Rows.uptoBulkAll (cs.map (datC (H := H)))
  | [] => Nat.zero_le _
  | c :: cs => by
    have := bulk_cols (H := H) cs
    simp only [List.map_cons, Rows.uptoBulkAll, List.length_cons, datC, Rows.uptoBulk]
    omega
theorem bulk_clim {H : Type} {d0 d1 : DataW H} {cs : List Col} {n : Nat} (h : Rows.uptoBulk (.agg [d0, d1]) ≤ n) (hcase : (d1 = .nil ∧ cs = []) ∨ ∃ spare, d1 = .slice (cs.map datC) spare) : cs.length ≤ n := by
  rcases hcase with ⟨_, rfl⟩ | ⟨spare, rfl⟩
  · simp
  · have := bulk_cols (H := H) cs
    simp only [Rows.uptoBulk, Rows.uptoBulkAll] at h
    omega
end Go.Proofs.YtlgnllnjhpihdaaDoor
