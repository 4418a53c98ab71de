/- What the laws' rows share: texts among the arguments opened. -/
import Derived.Test.YteeojhmdefhlmaaRows
import Derived.Test.YteeojhmdefhlmaaCuWork
import Derived.ProofKit
import Derived.OpenShut
import Derived.SizedLaws
import Derived.HandedShaped
import Derived.Carry
import Derived.SliceStrings
import Derived.ChangeSlices
import Derived.Shelf.Vars
import Derived.Deep.Slices
namespace Go.Proofs.Yteeojhmdefhlmaa
open Go.ChangeShapes Go.WideShapes Go.ChangeAt Go.RowKit

theorem own : ownKnob Try.prog.godebug = none := by kernel_rfl
theorem laidOut : laidOutB Try.prog = true := by kernel_rfl
theorem cells9 : Try.prog.cellsOf 9 = 1 := by kernel_rfl
theorem plain_addr {W : World} {b o : Nat} {sp : Option Nat} {v : Value} (h : W.cell? ⟨b, o, sp⟩ = some v) : sp = none := by
  cases sp with
  | none => rfl
  | some x =>
    unfold World.cell? at h
    split at h
    · simp at h
    · cases h
/-- Texts that are read: what they are, and where. -/
theorem texts_trod {H : Type} {enc : TypeId × Value → H} {W : World} {fuel : Nat} {cs : List Value} {x : DataW H × List MemPlace} (hf : DataW.trod enc Try.prog W 0 (fun _ => true) true fuel 37 cs = some x) :
    ∃ (a : Option Addr) (l : List ByteArray) (c : Nat), cs = [.slice a l.length c] ∧ Tx W a l ∧ l.length ≤ c ∧ c ≤ maxLen ∧ (a = none → c = 0) := by
  rcases open_strings Try.underlying37 Try.underlying9 cells9 hf with ⟨hcs, hx⟩ | ⟨ad, len, cap, ss, hcs, _, hl, hm, hz, hx, hcell, hws⟩
  · exact ⟨none, [], 0, hcs, fun i x hi => by simp at hi, Nat.le_refl _, by unfold maxLen; omega, fun _ => rfl⟩
  · simp only [if_true] at hz
    have hlen : (ss.take len).length = len := by rw [List.length_take]; omega
    refine ⟨some ad, ss.take len, cap, by rw [hcs, hlen], ?_, by rw [hlen]; exact hl, hm, fun hh => by cases hh⟩
    intro i x hi
    have hil : i < len := by have := (List.getElem?_eq_some_iff.1 hi).1; rw [hlen] at this; exact this
    have h1 := hcell i (by omega)
    obtain ⟨b, o, sp⟩ := ad
    have hsp : sp = none := by
      have k0 := hcell 0 (by omega)
      rw [show (⟨b, o, sp⟩ : Addr).add 0 = ⟨b, o, sp⟩ from rfl] at k0
      exact plain_addr k0
    subst hsp
    rw [Addr.add_lit] at h1
    refine ⟨b, o, rfl, block_lt_of_cell h1, ?_⟩
    rw [h1]
    rw [List.getElem?_take_of_lt hil] at hi
    simp [hi, List.getD_eq_getElem?_getD]
/-- Texts that are handed in. -/
theorem open_texts {H : Type} {enc : TypeId × Value → H} {W : World} {base : Nat} {v : Value} {d : DataW H} {p : List MemPlace}
    (hv : Value.okWide Try.prog W .any base 37 v) (h : DataW.Trod enc Try.prog W 0 (fun _ => true) true 37 v d p) :
    ∃ (a : Option Addr) (l : List ByteArray) (c : Nat), v = .slice a l.length c ∧ Tx W a l ∧ l.length ≤ c ∧ c ≤ maxLen ∧ (a = none → c = 0) := by
  obtain ⟨a, len, cap, rfl⟩ := okWide_slice Try.underlying37 hv
  obtain ⟨fuel, hf⟩ := h
  obtain ⟨a', l, c, hcs, h1⟩ := texts_trod hf
  simp [Value.cells] at hcs
  obtain ⟨rfl, rfl, rfl⟩ := hcs
  exact ⟨a, l, cap, rfl, h1⟩
end Go.Proofs.Yteeojhmdefhlmaa
