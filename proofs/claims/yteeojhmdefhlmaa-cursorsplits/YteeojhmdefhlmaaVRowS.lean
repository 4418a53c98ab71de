/- Texts among the arguments, with their limits. -/
import Derived.Test.YteeojhmdefhlmaaVRowT
namespace Go.Proofs.Yteeojhmdefhlmaa
open Go.ChangeShapes Go.WideShapes Go.ChangeAt Go.RowKit

theorem texts_trod2 {H : Type} {enc : TypeId × Value → H} {W : World} {fuel : Nat} {cs : List Value} {x : DataW H × List MemPlace} (hf : DataW.trod enc Try.prog W 0 (fun _ => true) true fuel 37 cs = some x) :
    ∃ (a : Option Addr) (l : List ByteArray) (c : Nat), cs = [.slice a l.length c] ∧ Tx W a l ∧ ((x.1 = .nil ∧ l = []) ∨ ∃ r, x.1 = .slice (strs l) r) := by
  rcases open_strings Try.underlying37 Try.underlying9 cells9 hf with ⟨hcs, hx⟩ | ⟨ad, len, cap, ss, hcs, _, hl, hm, hz, hx, hcell, hws⟩
  · exact ⟨none, [], 0, hcs, fun i x hi => by simp at hi, .inl ⟨by rw [hx], rfl⟩⟩
  · simp only [if_true] at hz
    have hlen : (ss.take len).length = len := by rw [List.length_take]; omega
    refine ⟨some ad, ss.take len, cap, by rw [hcs, hlen], ?_, .inr ⟨_, by rw [hx]⟩⟩
    intro i x hi
    have hil : i < len := by have := (List.getElem?_eq_some_iff.1 hi).1; rw [hlen] at this; exact this
    have h1 := hcell i (by omega)
    obtain ⟨b, o, sp⟩ := ad
    have hsp : sp = none := by
      have k0 := hcell 0 (by omega)
      rw [show (⟨b, o, sp⟩ : Addr).add 0 = ⟨b, o, sp⟩ from rfl] at k0
      exact plain_addr k0
    subst hsp
    rw [Addr.add_lit] at h1
    refine ⟨b, o, rfl, block_lt_of_cell h1, ?_⟩
    rw [h1]
    rw [List.getElem?_take_of_lt hil] at hi
    simp [hi, List.getD_eq_getElem?_getD]
theorem open_texts2 {H : Type} {enc : TypeId × Value → H} {W : World} {base : Nat} {v : Value} {d : DataW H} {p : List MemPlace}
    (hv : Value.okWide Try.prog W .any base 37 v) (h : DataW.Trod enc Try.prog W 0 (fun _ => true) true 37 v d p) :
    ∃ (a : Option Addr) (l : List ByteArray) (c : Nat), v = .slice a l.length c ∧ Tx W a l ∧ ((d = .nil ∧ l = []) ∨ ∃ r, d = .slice (strs l) r) := by
  obtain ⟨a, len, cap, rfl⟩ := okWide_slice Try.underlying37 hv
  obtain ⟨fuel, hf⟩ := h
  obtain ⟨a', l, c, hcs, h1⟩ := texts_trod2 hf
  simp [Value.cells] at hcs
  obtain ⟨rfl, rfl, rfl⟩ := hcs
  exact ⟨a, l, cap, rfl, h1⟩
theorem weights_strs {H : Type} (P : Program) (e : TypeId) : ∀ (l : List ByteArray) (s : ByteArray), s ∈ l → s.size ∈ DataW.weightsAll (H := H) P e (strs l)
  | [], _, h => by cases h
  | x :: l, s, h => by
    have e1 : DataW.weightsAll (H := H) P e (strs (x :: l)) = x.data.toList.length :: DataW.weightsAll (H := H) P e (strs l) := by
      simp [strs, DataW.weightsAll, DataW.weights]
    rw [e1]
    rcases List.mem_cons.1 h with rfl | h
    · exact List.mem_cons.2 (.inl (show s.data.size = s.data.toList.length from Array.length_toList.symm))
    · exact List.mem_cons_of_mem _ (weights_strs P e l s h)
/-- No text is longer than a machine can reach. -/
theorem texts_lim {H : Type} {ts : List TypeId} {ds : List (DataW H)} {d : DataW H} {l : List ByteArray} (h : (DataW.weightsEach Try.prog ts ds).all (· ≤ reachBytes) = true) {j : Nat} (ht : ts[j]? = some 37) (hd : ds[j]? = some d)
    (hcase : (d = .nil ∧ l = []) ∨ ∃ r, d = .slice (strs l) r) : ∀ x ∈ l, x.size ≤ 1000000000000000000 := by
  intro x hx
  rcases hcase with ⟨_, rfl⟩ | ⟨r, rfl⟩
  · cases hx
  · have := List.all_eq_true.1 h _ (DataW.weights_mem_each ht hd x.size (by simp only [DataW.weights, Try.underlying37]; exact List.mem_cons_of_mem _ (List.mem_append.2 (.inl (weights_strs _ _ l x hx)))))
    have h2 := reachBytes_lt
    have e3 : (2 : Nat) ^ 47 = 140737488355328 := by decide
    have h3 : x.size ≤ reachBytes := by simpa using this
    omega
end Go.Proofs.Yteeojhmdefhlmaa
