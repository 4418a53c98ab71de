/- What the laws' rows share: a range among the arguments opened; texts no longer than a machine can reach; What the laws' rows share: texts among the arguments opened; Texts among the arguments, with their limits. -/
import Derived.Test.YteeojhmdefhlmaaRows
import Derived.Test.YteeojhmdefhlmaaCuHas
import Derived.ProofKit
import Derived.OpenShut
import Derived.SizedLaws
import Derived.HandedShaped
import Derived.Carry
import Derived.ChangeSlices
import Derived.Shelf.Vars
import Derived.Deep.Slices
import Derived.Lib.SmallJoins
import Derived.Test.YteeojhmdefhlmaaCuWork
import Derived.SliceStrings
namespace Go.Proofs.Yteeojhmdefhlmaa
open Go.ChangeShapes Go.WideShapes Go.ChangeAt Go.RowKit Go.Joins

theorem ownC : ownKnob Try.prog.godebug = none := by kernel_rfl
theorem laidOutC : laidOutB Try.prog = true := by kernel_rfl
theorem array6 {α : Type} {cs : Array α} (h : cs.size = 6) : ∃ c0 c1 c2 c3 c4 c5, cs = #[c0, c1, c2, c3, c4, c5] := by
  obtain ⟨l⟩ := cs
  match l, h with
  | [c0, c1, c2, c3, c4, c5], _ => exact ⟨c0, c1, c2, c3, c4, c5, rfl⟩
theorem cells23 : Try.prog.cellsOf 23 = 6 := by kernel_rfl
theorem cells9C : Try.prog.cellsOf 9 = 1 := by kernel_rfl
theorem cells4C : Try.prog.cellsOf 4 = 1 := by kernel_rfl
def datR {H : Type} (r : Rg) : DataW H := .agg [.lit (.string r.f.data.toList), .lit (.string r.t.data.toList), .lit (.bool r.hf), .lit (.bool r.ht), .lit (.bool r.pf), .lit (.bool r.pt)]
set_option maxRecDepth 100000 in
set_option maxHeartbeats 1000000 in
/-- A range that is handed in. -/
theorem open_rg {H : Type} {enc : TypeId × Value → H} {W : World} {base : Nat} {v : Value} {d : DataW H} {p : List MemPlace}
    (hv : Value.okWide Try.prog W .any base 23 v) (h : DataW.Trod enc Try.prog W 0 (fun _ => true) true 23 v d p) :
    ∃ r : Rg, v = rgV r ∧ d = datR r ∧ p = [] := by
  obtain ⟨cs, rfl, hsz⟩ := okWide_struct Try.underlying23 hv
  obtain ⟨v0, v1, v2, v3, v4, v5, rfl⟩ := array6 (hsz.trans cells23)
  obtain ⟨fuel, h⟩ := h
  obtain ⟨xs, k, _, hxy, _, hxl, hf⟩ := DataW.trod_struct Try.underlying23 h
  match xs, hxl with
  | [y0, y1, y2, y3, y4, y5], _ =>
    have g0 := hf 0 _ rfl
    have g1 := hf 1 _ rfl
    have g2 := hf 2 _ rfl
    have g3 := hf 3 _ rfl
    have g4 := hf 4 _ rfl
    have g5 := hf 5 _ rfl
    simp [cells9C, cells4C, Value.cells] at g0 g1 g2 g3 g4 g5
    obtain ⟨s0, e0, rfl, _⟩ := DataW.trod_string Try.underlying9 g0
    obtain ⟨s1, e1, rfl, _⟩ := DataW.trod_string Try.underlying9 g1
    obtain ⟨b2, e2, rfl⟩ := DataW.trod_bool Try.underlying4 g2
    obtain ⟨b3, e3, rfl⟩ := DataW.trod_bool Try.underlying4 g3
    obtain ⟨b4, e4, rfl⟩ := DataW.trod_bool Try.underlying4 g4
    obtain ⟨b5, e5, rfl⟩ := DataW.trod_bool Try.underlying4 g5
    simp at e0 e1 e2 e3 e4 e5
    subst e0 e1 e2 e3 e4 e5
    simp at hxy
    exact ⟨⟨s0, s1, b2, b3, b4, b5⟩, rfl, hxy.1, hxy.2⟩
theorem reachE : reachBytes = 140737488351232 := by decide
theorem rg_lim {H : Type} {ts : List TypeId} {ds : List (DataW H)} {r : Rg} (h : (DataW.weightsEach Try.prog ts ds).all (· ≤ reachBytes) = true) {j : Nat} (ht : ts[j]? = some 23)
    (hd : ds[j]? = some (datR r)) : r.f.size ≤ 140737488351232 ∧ r.t.size ≤ 140737488351232 := by
  have hm := DataW.weights_mem_each (P := Try.prog) ht hd r.f.data.toList.length (by simp [datR, DataW.weights, DataW.weightsEach, Try.underlying23])
  have hm2 := DataW.weights_mem_each (P := Try.prog) ht hd r.t.data.toList.length (by simp [datR, DataW.weights, DataW.weightsEach, Try.underlying23])
  have hle := List.all_eq_true.1 h _ hm
  have hle2 := List.all_eq_true.1 h _ hm2
  rw [size_list, size_list]
  exact ⟨by simpa [reachE] using hle, by simpa [reachE] using hle2⟩
theorem string_limC {H : Type} {ts : List TypeId} {ds : List (DataW H)} {s : ByteArray} (h : (DataW.weightsEach Try.prog ts ds).all (· ≤ reachBytes) = true) {j : Nat} {t : TypeId} (ht : ts[j]? = some t) (hd : ds[j]? = some (.lit (.string s.data.toList))) : s.size ≤ 140737488351232 := by
  have := sized_string h ht hd
  rw [Array.length_toList, reachE] at this
  show s.data.size ≤ _
  omega
end Go.Proofs.Yteeojhmdefhlmaa

namespace Go.Proofs.Yteeojhmdefhlmaa
open Go.ChangeShapes Go.WideShapes Go.ChangeAt Go.RowKit

theorem own : ownKnob Try.prog.godebug = none := by kernel_rfl
theorem laidOut : laidOutB Try.prog = true := by kernel_rfl
theorem cells9 : Try.prog.cellsOf 9 = 1 := by kernel_rfl
theorem plain_addr {W : World} {b o : Nat} {sp : Option Nat} {v : Value} (h : W.cell? ⟨b, o, sp⟩ = some v) : sp = none := by
  cases sp with
  | none => rfl
  | some x =>
    unfold World.cell? at h
    split at h
    · simp at h
    · cases h
/-- Texts that are read: what they are, and where. -/
theorem texts_trod {H : Type} {enc : TypeId × Value → H} {W : World} {fuel : Nat} {cs : List Value} {x : DataW H × List MemPlace} (hf : DataW.trod enc Try.prog W 0 (fun _ => true) true fuel 37 cs = some x) :
    ∃ (a : Option Addr) (l : List ByteArray) (c : Nat), cs = [.slice a l.length c] ∧ Tx W a l ∧ l.length ≤ c ∧ c ≤ maxLen ∧ (a = none → c = 0) := by
  rcases open_strings Try.underlying37 Try.underlying9 cells9 hf with ⟨hcs, hx⟩ | ⟨ad, len, cap, ss, hcs, _, hl, hm, hz, hx, hcell, hws⟩
  · exact ⟨none, [], 0, hcs, fun i x hi => by simp at hi, Nat.le_refl _, by unfold maxLen; omega, fun _ => rfl⟩
  · simp only [if_true] at hz
    have hlen : (ss.take len).length = len := by rw [List.length_take]; omega
    refine ⟨some ad, ss.take len, cap, by rw [hcs, hlen], ?_, by rw [hlen]; exact hl, hm, fun hh => by cases hh⟩
    intro i x hi
    have hil : i < len := by have := (List.getElem?_eq_some_iff.1 hi).1; rw [hlen] at this; exact this
    have h1 := hcell i (by omega)
    obtain ⟨b, o, sp⟩ := ad
    have hsp : sp = none := by
      have k0 := hcell 0 (by omega)
      rw [show (⟨b, o, sp⟩ : Addr).add 0 = ⟨b, o, sp⟩ from rfl] at k0
      exact plain_addr k0
    subst hsp
    rw [Addr.add_lit] at h1
    refine ⟨b, o, rfl, block_lt_of_cell h1, ?_⟩
    rw [h1]
    rw [List.getElem?_take_of_lt hil] at hi
    simp [hi, List.getD_eq_getElem?_getD]
/-- Texts that are handed in. -/
theorem open_texts {H : Type} {enc : TypeId × Value → H} {W : World} {base : Nat} {v : Value} {d : DataW H} {p : List MemPlace}
    (hv : Value.okWide Try.prog W .any base 37 v) (h : DataW.Trod enc Try.prog W 0 (fun _ => true) true 37 v d p) :
    ∃ (a : Option Addr) (l : List ByteArray) (c : Nat), v = .slice a l.length c ∧ Tx W a l ∧ l.length ≤ c ∧ c ≤ maxLen ∧ (a = none → c = 0) := by
  obtain ⟨a, len, cap, rfl⟩ := okWide_slice Try.underlying37 hv
  obtain ⟨fuel, hf⟩ := h
  obtain ⟨a', l, c, hcs, h1⟩ := texts_trod hf
  simp [Value.cells] at hcs
  obtain ⟨rfl, rfl, rfl⟩ := hcs
  exact ⟨a, l, cap, rfl, h1⟩
end Go.Proofs.Yteeojhmdefhlmaa

namespace Go.Proofs.Yteeojhmdefhlmaa
open Go.ChangeShapes Go.WideShapes Go.ChangeAt Go.RowKit

theorem texts_trod2 {H : Type} {enc : TypeId × Value → H} {W : World} {fuel : Nat} {cs : List Value} {x : DataW H × List MemPlace} (hf : DataW.trod enc Try.prog W 0 (fun _ => true) true fuel 37 cs = some x) :
    ∃ (a : Option Addr) (l : List ByteArray) (c : Nat), cs = [.slice a l.length c] ∧ Tx W a l ∧ ((x.1 = .nil ∧ l = []) ∨ ∃ r, x.1 = .slice (strs l) r) := by
  rcases open_strings Try.underlying37 Try.underlying9 cells9 hf with ⟨hcs, hx⟩ | ⟨ad, len, cap, ss, hcs, _, hl, hm, hz, hx, hcell, hws⟩
  · exact ⟨none, [], 0, hcs, fun i x hi => by simp at hi, .inl ⟨by rw [hx], rfl⟩⟩
  · simp only [if_true] at hz
    have hlen : (ss.take len).length = len := by rw [List.length_take]; omega
    refine ⟨some ad, ss.take len, cap, by rw [hcs, hlen], ?_, .inr ⟨_, by rw [hx]⟩⟩
    intro i x hi
    have hil : i < len := by have := (List.getElem?_eq_some_iff.1 hi).1; rw [hlen] at this; exact this
    have h1 := hcell i (by omega)
    obtain ⟨b, o, sp⟩ := ad
    have hsp : sp = none := by
      have k0 := hcell 0 (by omega)
      rw [show (⟨b, o, sp⟩ : Addr).add 0 = ⟨b, o, sp⟩ from rfl] at k0
      exact plain_addr k0
    subst hsp
    rw [Addr.add_lit] at h1
    refine ⟨b, o, rfl, block_lt_of_cell h1, ?_⟩
    rw [h1]
    rw [List.getElem?_take_of_lt hil] at hi
    simp [hi, List.getD_eq_getElem?_getD]
theorem open_texts2 {H : Type} {enc : TypeId × Value → H} {W : World} {base : Nat} {v : Value} {d : DataW H} {p : List MemPlace}
    (hv : Value.okWide Try.prog W .any base 37 v) (h : DataW.Trod enc Try.prog W 0 (fun _ => true) true 37 v d p) :
    ∃ (a : Option Addr) (l : List ByteArray) (c : Nat), v = .slice a l.length c ∧ Tx W a l ∧ ((d = .nil ∧ l = []) ∨ ∃ r, d = .slice (strs l) r) := by
  obtain ⟨a, len, cap, rfl⟩ := okWide_slice Try.underlying37 hv
  obtain ⟨fuel, hf⟩ := h
  obtain ⟨a', l, c, hcs, h1⟩ := texts_trod2 hf
  simp [Value.cells] at hcs
  obtain ⟨rfl, rfl, rfl⟩ := hcs
  exact ⟨a, l, cap, rfl, h1⟩
theorem weights_strs {H : Type} (P : Program) (e : TypeId) : ∀ (l : List ByteArray) (s : ByteArray), s ∈ l → s.size ∈ DataW.weightsAll (H := H) P e (strs l)
  | [], _, h => by cases h
  | x :: l, s, h => by
    have e1 : DataW.weightsAll (H := H) P e (strs (x :: l)) = x.data.toList.length :: DataW.weightsAll (H := H) P e (strs l) := by
      simp [strs, DataW.weightsAll, DataW.weights]
    rw [e1]
    rcases List.mem_cons.1 h with rfl | h
    · exact List.mem_cons.2 (.inl (show s.data.size = s.data.toList.length from Array.length_toList.symm))
    · exact List.mem_cons_of_mem _ (weights_strs P e l s h)
/-- No text is longer than a machine can reach. -/
theorem texts_lim {H : Type} {ts : List TypeId} {ds : List (DataW H)} {d : DataW H} {l : List ByteArray} (h : (DataW.weightsEach Try.prog ts ds).all (· ≤ reachBytes) = true) {j : Nat} (ht : ts[j]? = some 37) (hd : ds[j]? = some d)
    (hcase : (d = .nil ∧ l = []) ∨ ∃ r, d = .slice (strs l) r) : ∀ x ∈ l, x.size ≤ 1000000000000000000 := by
  intro x hx
  rcases hcase with ⟨_, rfl⟩ | ⟨r, rfl⟩
  · cases hx
  · have := List.all_eq_true.1 h _ (DataW.weights_mem_each ht hd x.size (by simp only [DataW.weights, Try.underlying37]; exact List.mem_cons_of_mem _ (List.mem_append.2 (.inl (weights_strs _ _ l x hx)))))
    have h2 := reachBytes_lt
    have e3 : (2 : Nat) ^ 47 = 140737488355328 := by decide
    have h3 : x.size ≤ reachBytes := by simpa using this
    omega
end Go.Proofs.Yteeojhmdefhlmaa
