/- What is done, among the arguments, opened; how long its rows are. -/
import Derived.Test.YtagamkahfiackaaGreatDoorRows
import Derived.Test.YtagamkahfiackaaGreatDoorVnTrMath
import Derived.ProofKit
import Derived.OpenShut
import Derived.SizedLaws
import Derived.HandedShaped
import Derived.Carry
import Derived.ChangeSlices
import Derived.Shelf.Vars
import Derived.Deep.Slices
import Derived.Deep.Grids
namespace Go.Proofs.YtagamkahfiackaaGreatDoor
open Go.ChangeShapes Go.WideShapes Go.ChangeAt Go.RowKit

theorem own : ownKnob Tryz.prog.godebug = none := by kernel_rfl
theorem laidOut : laidOutB Tryz.prog = true := by kernel_rfl
theorem cells9 : Tryz.prog.cellsOf 9 = 1 := by kernel_rfl
theorem cells3 : Tryz.prog.cellsOf 3 = 1 := by kernel_rfl
theorem cells4 : Tryz.prog.cellsOf 4 = 1 := by kernel_rfl
theorem plain_addr {W : World} {b o : Nat} {sp : Option Nat} {v : Value} (h : W.cell? ⟨b, o, sp⟩ = some v) : sp = none := by
  cases sp with
  | none => rfl
  | some x =>
    unfold World.cell? at h
    split at h
    · simp at h
    · cases h
theorem i64_lim {x : Int} (h : (Lit.int .i64 x).wf = true) : -9223372036854775808 ≤ x ∧ x ≤ 9223372036854775807 := by
  simp only [Lit.wf, Bool.and_eq_true, decide_eq_true_eq] at h
  exact h
theorem cellsA : Tryz.prog.cellsOf 32 = 5 := by kernel_rfl
/-- Something done, as data. -/
def IsAct {H : Type} (x : ActV) (d : DataW H) : Prop := d = .agg [.lit (.int .i64 x.kd), .lit (.int .i64 x.tm), .lit (.string x.key.data.toList), .lit (.string x.row.data.toList), .lit (.bool x.gn)]
def LimA (x : ActV) : Prop := (-9223372036854775808 ≤ x.kd ∧ x.kd ≤ 9223372036854775807) ∧ -9223372036854775808 ≤ x.tm ∧ x.tm ≤ 9223372036854775807
set_option maxRecDepth 100000 in
theorem open_acts {H : Type} {enc : TypeId × Value → H} {W : World} {base : Nat} {v : Value} {d : DataW H} {p : List MemPlace}
    (hv : Value.okWide Tryz.prog W .any base 22 v) (h : DataW.Trod enc Tryz.prog W 0 (fun _ => true) true 22 v d p) :
    ∃ (a : Option Addr) (L : List ActV) (c : Nat), v = .slice a L.length c ∧ ActsIn W a L ∧ (∀ x ∈ L, LimA x) ∧ ((d = .nil ∧ L = []) ∨ ∃ ds spare, d = .slice ds spare ∧ ds.length = L.length ∧ ∀ i (h : i < L.length) (h2 : i < ds.length), IsAct L[i] ds[i]) := by
  obtain ⟨a, len, cap, rfl⟩ := okWide_slice Tryz.underlying22 hv
  obtain ⟨fuel, h⟩ := h
  have h' : DataW.trod enc Tryz.prog W 0 (fun _ => true) true fuel 22 [.slice a len cap] = some (d, p) := by simpa [Value.cells] using h
  rcases Deep.open_slice Tryz.underlying22 h' with ⟨e1, e2⟩ | ⟨ad, len', cap', m, n, D, Pl, e1, _, hl, hcm, hm, e2, hc⟩
  · simp only [List.cons.injEq, and_true, Value.slice.injEq] at e1
    obtain ⟨rfl, rfl, rfl⟩ := e1
    simp only [Prod.mk.injEq] at e2
    exact ⟨none, [], 0, rfl, fun i x hi => by simp at hi, fun x hx => (by cases hx), .inl ⟨e2.1, rfl⟩⟩
  · simp only [List.cons.injEq, and_true, Value.slice.injEq] at e1
    obtain ⟨rfl, rfl, rfl⟩ := e1
    simp only [if_true] at hm
    subst hm
    simp only [Prod.mk.injEq] at e2
    have each : ∀ i, i < m → ∃ x : ActV, IsAct x (D i) ∧ LimA x ∧ ∃ b o, ad = ⟨b, o, none⟩ ∧ b < W.heap.size ∧ W.cell? ⟨b, o + i * 5, none⟩ = some (.int .i64 x.kd) ∧ W.cell? ⟨b, o + i * 5 + 1, none⟩ = some (.int .i64 x.tm) ∧ W.cell? ⟨b, o + i * 5 + 2, none⟩ = some (.string x.key) ∧ W.cell? ⟨b, o + i * 5 + 3, none⟩ = some (.string x.row) ∧ W.cell? ⟨b, o + i * 5 + 4, none⟩ = some (.bool x.gn) := by
      intro i hi
      obtain ⟨cs', h1, h2⟩ := hc i hi
      rw [cellsA] at h1
      obtain ⟨_, hlen, hcell⟩ := World.cells?_some h1
      obtain ⟨xs, k, _, hxy, _, hxl, hf⟩ := DataW.trod_struct Tryz.underlying32 h2
      match xs, hxl, cs', hlen with
      | [y0, y1, y2, y3, y4], _, [v0, v1, v2, v3, v4], _ =>
        have g0 := hf 0 _ rfl
        have g1 := hf 1 _ rfl
        have g2 := hf 2 _ rfl
        have g3 := hf 3 _ rfl
        have g4 := hf 4 _ rfl
        simp [cells3, cells9, cells4] at g0 g1 g2 g3 g4
        obtain ⟨x0, f0, z0, w0⟩ := DataW.trod_int Tryz.underlying3 g0
        obtain ⟨x1, f1, z1, w1⟩ := DataW.trod_int Tryz.underlying3 g1
        obtain ⟨x2, f2, z2, _⟩ := DataW.trod_string Tryz.underlying9 g2
        obtain ⟨x3, f3, z3, _⟩ := DataW.trod_string Tryz.underlying9 g3
        obtain ⟨x4, f4, z4⟩ := DataW.trod_bool Tryz.underlying4 g4
        simp at f0 f1 f2 f3 f4
        subst f0 f1 f2 f3 f4
        obtain ⟨b, o, sp⟩ := ad
        have k0 := hcell 0 (by simp)
        have k1 := hcell 1 (by simp)
        have k2 := hcell 2 (by simp)
        have k3 := hcell 3 (by simp)
        have k4 := hcell 4 (by simp)
        have hsp : sp = none := by
          obtain ⟨cs0, q1, _⟩ := hc 0 (by omega)
          rw [cellsA] at q1
          obtain ⟨_, zl, zc⟩ := World.cells?_some q1
          have q0 := zc 0 (by omega)
          exact plain_addr (b := b) (o := o) (q0.trans (List.getElem?_eq_getElem (by omega)))
        subst hsp
        simp only [Addr.add_lit] at k0 k1 k2 k3 k4
        simp only [Prod.mk.injEq] at hxy
        have k0' : W.cell? ⟨b, o + i * 5, none⟩ = some (.int .i64 x0) := by simpa using k0
        refine ⟨⟨x0, x1, x2, x3, x4⟩, ?_, ⟨i64_lim w0, i64_lim w1⟩, b, o, rfl, block_lt_of_cell k0', k0', by simpa [Nat.add_assoc] using k1, by simpa [Nat.add_assoc] using k2, by simpa [Nat.add_assoc] using k3, by simpa [Nat.add_assoc] using k4⟩
        have := hxy.1
        simp only [List.map_cons, List.map_nil] at this
        unfold IsAct
        rw [this, z0, z1, z2, z3, z4]
    obtain ⟨f, hf⟩ := @Deep.choose_lt ActV ⟨⟨0, 0, ⟨#[]⟩, ⟨#[]⟩, false⟩⟩ m _ each
    have hlen : ((List.range len).map f).length = len := by simp
    refine ⟨some ad, (List.range len).map f, m, by rw [hlen], ?_, ?_, .inr ⟨_, _, e2.1, by simp, ?_⟩⟩
    · intro i x hi
      obtain ⟨hil, e⟩ := List.getElem?_eq_some_iff.1 hi
      rw [hlen] at hil
      simp only [List.getElem_map, List.getElem_range] at e
      subst e
      obtain ⟨_, _, b, o, rfl, h1⟩ := hf i (by omega)
      exact ⟨b, o, rfl, h1⟩
    · intro x hx
      obtain ⟨i, hi, rfl⟩ := List.mem_map.1 hx
      exact (hf i (by have := List.mem_range.1 hi; omega)).2.1
    · intro i hi h2
      rw [hlen] at hi
      have := (hf i (by omega)).1
      simp only [List.getElem_map, List.getElem_range]
      exact this
theorem mem_all {H : Type} {e : TypeId} : ∀ (ds : List (DataW H)) (i : Nat) (h : i < ds.length) (n : Nat), n ∈ ds[i].weights Tryz.prog e → n ∈ DataW.weightsAll Tryz.prog e ds
  | [], i, h, _, _ => by simp at h
  | d :: r, 0, _, n, hn => by
    simp only [DataW.weightsAll, List.mem_append]
    exact .inl hn
  | d :: r, i + 1, h, n, hn => by
    simp only [DataW.weightsAll, List.mem_append]
    exact .inr (mem_all r i (by simpa using h) n hn)
/-- No row is longer than a machine can reach. -/
theorem acts_lim {H : Type} {ts : List TypeId} {ds : List (DataW H)} {d : DataW H} {L : List ActV} (h : (DataW.weightsEach Tryz.prog ts ds).all (· ≤ reachBytes) = true) {j : Nat} (ht : ts[j]? = some 22) (hd : ds[j]? = some d)
    (hcase : (d = .nil ∧ L = []) ∨ ∃ es spare, d = .slice es spare ∧ es.length = L.length ∧ ∀ i (h : i < L.length) (h2 : i < es.length), IsAct L[i] es[i]) : ∀ x ∈ L, x.row.size ≤ 140737488355328 := by
  rcases hcase with ⟨_, rfl⟩ | ⟨es, spare, rfl, hl, hdat⟩
  · exact fun x hx => by cases hx
  · have e : reachBytes = 140737488351232 := by decide
    have all : ∀ n ∈ (DataW.slice es spare : DataW H).weights Tryz.prog 22, n ≤ 140737488351232 := fun n hn => by
      have := List.all_eq_true.1 h _ (DataW.weights_mem_each (P := Tryz.prog) ht hd n hn)
      simpa [e] using this
    intro x hx
    obtain ⟨i, hi, rfl⟩ := List.getElem_of_mem hx
    have hw : (L[i]).row.data.toList.length ∈ (es[i]'(by omega)).weights Tryz.prog 32 := by
      rw [hdat i hi (by omega)]
      simp [DataW.weights, DataW.weightsEach, Tryz.underlying32]
    have := all _ (by
      simp only [DataW.weights, Tryz.underlying22, List.mem_cons, List.mem_append]
      exact .inr (.inl (mem_all es i (by omega) _ hw)))
    rw [size_list]; omega
end Go.Proofs.YtagamkahfiackaaGreatDoor
