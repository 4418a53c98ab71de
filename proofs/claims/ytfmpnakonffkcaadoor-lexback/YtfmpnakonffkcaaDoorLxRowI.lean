/- A list of numbers among the arguments opened. -/
import Derived.Test.YtfmpnakonffkcaaDoorLxDoor
import Derived.Test.YtfmpnakonffkcaaDoorLxBack
import Derived.ChangeSlices
import Derived.HandedShaped
import Derived.Deep.Slices
namespace Go.Proofs.YtfmpnakonffkcaaDoor
open Go.ChangeShapes Go.WideShapes Go.ChangeAt Go.RowKit

theorem laidOut : laidOutB Tryd.prog = true := by kernel_rfl
theorem cells3 : Tryd.prog.cellsOf 3 = 1 := by kernel_rfl
theorem plain_addr {W : World} {b o : Nat} {sp : Option Nat} {v : Value} (h : W.cell? ⟨b, o, sp⟩ = some v) : sp = none := by
  cases sp with
  | none => rfl
  | some x =>
    unfold World.cell? at h
    split at h
    · simp at h
    · cases h
set_option maxRecDepth 100000 in
/-- Numbers that are read, wherever they stand. -/
theorem ints_of {H : Type} {enc : TypeId × Value → H} {W : World} {fuel : Nat} {cs : List Value} {d : DataW H} {p : List MemPlace}
    (hf : DataW.trod enc Tryd.prog W 0 (fun _ => true) true fuel 22 cs = some (d, p)) :
    ∃ (a : Option Addr) (zs : List Int) (c : Nat), cs = [.slice a zs.length c] ∧ IntsIn W a zs ∧ (a = none → c = 0) ∧ zs.length ≤ c ∧ ((d = .nil ∧ zs = []) ∨ ∃ elems spare, d = .slice elems spare ∧ elems.length = zs.length) := by
  rcases open_ints Tryd.underlying22 Tryd.underlying3 cells3 hf with ⟨hcs, hx⟩ | ⟨ad, len, cap, zs, hcs, _, hl, hm, hz, hx, hcell, hwz⟩
  · simp only [Prod.mk.injEq] at hx
    exact ⟨none, [], 0, hcs, intsIn_nil _ _, fun _ => rfl, Nat.le_refl _, .inl ⟨hx.1, rfl⟩⟩
  · simp only [Prod.mk.injEq] at hx
    simp only [if_true] at hz
    have hlen : (zs.take len).length = len := by simp; omega
    refine ⟨some ad, zs.take len, cap, by rw [hlen]; exact hcs, fun i hi => ?_, fun hh => (by cases hh), by rw [hlen]; exact hl, .inr ⟨_, _, hx.1, by simp [lits]⟩⟩
    rw [hlen] at hi
    have hi2 : i < zs.length := by omega
    have h1 := hcell i hi2
    obtain ⟨b, o, sp⟩ := ad
    have hsp : sp = none := plain_addr (b := b) (o := o) (hcell 0 (by omega))
    subst hsp
    rw [Addr.add_lit] at h1
    refine ⟨b, o, rfl, h1.trans ?_⟩
    simp [List.getD_eq_getElem?_getD, List.getElem?_eq_getElem hi2]
set_option maxRecDepth 100000 in
/-- Numbers that are handed in. -/
theorem open_ints8 {H : Type} {enc : TypeId × Value → H} {W : World} {base : Nat} {v : Value} {d : DataW H} {p : List MemPlace}
    (hv : Value.okWide Tryd.prog W .any base 22 v) (h : DataW.Trod enc Tryd.prog W 0 (fun _ => true) true 22 v d p) :
    ∃ (a : Option Addr) (zs : List Int) (c : Nat), v = .slice a zs.length c ∧ IntsIn W a zs ∧ (a = none → c = 0) ∧ zs.length ≤ c ∧ ((d = .nil ∧ zs = []) ∨ ∃ elems spare, d = .slice elems spare ∧ elems.length = zs.length) := by
  obtain ⟨a, len, cap, rfl⟩ := okWide_slice Tryd.underlying22 hv
  obtain ⟨fuel, h⟩ := h
  have h' : DataW.trod enc Tryd.prog W 0 (fun _ => true) true fuel 22 [.slice a len cap] = some (d, p) := by simpa [Value.cells] using h
  obtain ⟨a', zs, c', e, r⟩ := ints_of h'
  simp only [List.cons.injEq, and_true] at e
  exact ⟨a', zs, c', e, r⟩
end Go.Proofs.YtfmpnakonffkcaaDoor
