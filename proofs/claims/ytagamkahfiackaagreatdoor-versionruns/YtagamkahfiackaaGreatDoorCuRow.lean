/- What the laws' rows share: a range among the arguments opened; texts no longer than a machine can reach. -/
import Derived.Test.YtagamkahfiackaaGreatDoorRows
import Derived.Test.YtagamkahfiackaaGreatDoorJ6
import Derived.ProofKit
import Derived.OpenShut
import Derived.SizedLaws
import Derived.HandedShaped
import Derived.Carry
import Derived.ChangeSlices
import Derived.Shelf.Vars
import Derived.Deep.Slices
import Derived.Lib.SmallJoins
namespace Go.Proofs.YtagamkahfiackaaGreatDoor
open Go.ChangeShapes Go.WideShapes Go.ChangeAt Go.RowKit Go.Joins

theorem ownC : ownKnob Tryz.prog.godebug = none := by kernel_rfl
theorem laidOutC : laidOutB Tryz.prog = true := by kernel_rfl
theorem array6 {α : Type} {cs : Array α} (h : cs.size = 6) : ∃ c0 c1 c2 c3 c4 c5, cs = #[c0, c1, c2, c3, c4, c5] := by
  obtain ⟨l⟩ := cs
  match l, h with
  | [c0, c1, c2, c3, c4, c5], _ => exact ⟨c0, c1, c2, c3, c4, c5, rfl⟩
theorem cells23 : Tryz.prog.cellsOf 24 = 6 := by kernel_rfl
theorem cells9C : Tryz.prog.cellsOf 9 = 1 := by kernel_rfl
theorem cells4C : Tryz.prog.cellsOf 4 = 1 := by kernel_rfl
def datR {H : Type} (r : Rg) : DataW H := .agg [.lit (.string r.f.data.toList), .lit (.string r.t.data.toList), .lit (.bool r.hf), .lit (.bool r.ht), .lit (.bool r.pf), .lit (.bool r.pt)]
set_option maxRecDepth 100000 in
set_option maxHeartbeats 1000000 in
/-- A range that is handed in. -/
theorem open_rg {H : Type} {enc : TypeId × Value → H} {W : World} {base : Nat} {v : Value} {d : DataW H} {p : List MemPlace}
    (hv : Value.okWide Tryz.prog W .any base 24 v) (h : DataW.Trod enc Tryz.prog W 0 (fun _ => true) true 24 v d p) :
    ∃ r : Rg, v = rgV r ∧ d = datR r ∧ p = [] := by
  obtain ⟨cs, rfl, hsz⟩ := okWide_struct Tryz.underlying24 hv
  obtain ⟨v0, v1, v2, v3, v4, v5, rfl⟩ := array6 (hsz.trans cells23)
  obtain ⟨fuel, h⟩ := h
  obtain ⟨xs, k, _, hxy, _, hxl, hf⟩ := DataW.trod_struct Tryz.underlying24 h
  match xs, hxl with
  | [y0, y1, y2, y3, y4, y5], _ =>
    have g0 := hf 0 _ rfl
    have g1 := hf 1 _ rfl
    have g2 := hf 2 _ rfl
    have g3 := hf 3 _ rfl
    have g4 := hf 4 _ rfl
    have g5 := hf 5 _ rfl
    simp [cells9C, cells4C, Value.cells] at g0 g1 g2 g3 g4 g5
    obtain ⟨s0, e0, rfl, _⟩ := DataW.trod_string Tryz.underlying9 g0
    obtain ⟨s1, e1, rfl, _⟩ := DataW.trod_string Tryz.underlying9 g1
    obtain ⟨b2, e2, rfl⟩ := DataW.trod_bool Tryz.underlying4 g2
    obtain ⟨b3, e3, rfl⟩ := DataW.trod_bool Tryz.underlying4 g3
    obtain ⟨b4, e4, rfl⟩ := DataW.trod_bool Tryz.underlying4 g4
    obtain ⟨b5, e5, rfl⟩ := DataW.trod_bool Tryz.underlying4 g5
    simp at e0 e1 e2 e3 e4 e5
    subst e0 e1 e2 e3 e4 e5
    simp at hxy
    exact ⟨⟨s0, s1, b2, b3, b4, b5⟩, rfl, hxy.1, hxy.2⟩
theorem reachE : reachBytes = 140737488351232 := by decide
theorem rg_lim {H : Type} {ts : List TypeId} {ds : List (DataW H)} {r : Rg} (h : (DataW.weightsEach Tryz.prog ts ds).all (· ≤ reachBytes) = true) {j : Nat} (ht : ts[j]? = some 24)
    (hd : ds[j]? = some (datR r)) : r.f.size ≤ 140737488351232 ∧ r.t.size ≤ 140737488351232 := by
  have hm := DataW.weights_mem_each (P := Tryz.prog) ht hd r.f.data.toList.length (by simp [datR, DataW.weights, DataW.weightsEach, Tryz.underlying24])
  have hm2 := DataW.weights_mem_each (P := Tryz.prog) ht hd r.t.data.toList.length (by simp [datR, DataW.weights, DataW.weightsEach, Tryz.underlying24])
  have hle := List.all_eq_true.1 h _ hm
  have hle2 := List.all_eq_true.1 h _ hm2
  rw [size_list, size_list]
  exact ⟨by simpa [reachE] using hle, by simpa [reachE] using hle2⟩
theorem string_limC {H : Type} {ts : List TypeId} {ds : List (DataW H)} {s : ByteArray} (h : (DataW.weightsEach Tryz.prog ts ds).all (· ≤ reachBytes) = true) {j : Nat} {t : TypeId} (ht : ts[j]? = some t) (hd : ds[j]? = some (.lit (.string s.data.toList))) : s.size ≤ 140737488351232 := by
  have := sized_string h ht hd
  rw [Array.length_toList, reachE] at this
  show s.data.size ≤ _
  omega
end Go.Proofs.YtagamkahfiackaaGreatDoor
