/- What the laws' rows share: a label, and labels, among the arguments opened and shut again. -/
import Derived.Test.YtoompephogamaaaGreatDoorMem
import Derived.Test.YtoompephogamaaaGreatDoorCards
import Derived.Test.YtoompephogamaaaGreatDoorTie
import Derived.ProofKit
import Derived.LaidMore
import Derived.OpenShut
import Derived.Stop.Joined
import Derived.Lib.SmallJoins
import Derived.SizedLaws
import Derived.Deep.SlicePairs
import Derived.Carry
namespace Go.Proofs.YtoompephogamaaaGreatDoor
open Go.ChangeShapes Go.WideShapes Go.ChangeAt Go.RowKit Go.Joins

theorem own : ownKnob Tryz.prog.godebug = none := by kernel_rfl
theorem cellsL : Tryz.prog.cellsOf 25 = 2 := by kernel_rfl

set_option maxRecDepth 100000 in
/-- A label that is handed in: its rank and its bits. -/
theorem open_label {H : Type} {enc : TypeId × Value → H} {W : World} {base : Nat} {v : Value} {d : DataW H} {p : List MemPlace}
    (hv : Value.okWide Tryz.prog W .any base 25 v) (h : DataW.Trod enc Tryz.prog W 0 (fun _ => true) true 25 v d p) :
    ∃ (r : Int) (c : Nat), v = .agg #[.int .i64 r, .int .u32 c] ∧ d = .agg [.lit (.int .i64 r), .lit (.int .u32 c)] ∧ p = [] ∧ c < 4294967296 ∧ (Lit.int .i64 r).wf = true ∧ (Lit.int .u32 c).wf = true := by
  obtain ⟨c0, c1, y0, y1, m, rfl, rfl, rfl, hy0, hy1⟩ := open_agg2 Tryz.underlying25 (by kernel_rfl) cellsL hv h
  obtain ⟨a, e0, rfl, wa⟩ := DataW.trod_int Tryz.underlying3 hy0
  obtain ⟨b, e1, rfl, wb⟩ := DataW.trod_int Tryz.underlying23 hy1
  simp at e0 e1
  subst e0 e1
  have hb := bounds_u32 wb
  obtain ⟨n, rfl⟩ := Int.eq_ofNat_of_zero_le hb.1
  exact ⟨a, n, rfl, rfl, rfl, by omega, wa, wb⟩

/-- .. and read again. -/
theorem shut_label {H : Type} {enc : TypeId × Value → H} {r : Int} {c : Nat} (wr : (Lit.int .i64 r).wf = true) (wc : (Lit.int .u32 c).wf = true) (W : World) (sp : Nat → Bool) :
    DataW.Trod enc Tryz.prog W 0 sp true 25 (.agg #[.int .i64 r, .int .u32 c]) (.agg [.lit (.int .i64 r), .lit (.int .u32 c)]) [] :=
  shut_agg2 (y0 := (.lit (.int .i64 r), [])) (y1 := (.lit (.int .u32 c), [])) Tryz.underlying25 (by kernel_rfl) cellsL ⟨1, by simp [DataW.trod, Tryz.underlying3, wr]⟩ ⟨1, by simp [DataW.trod, Tryz.underlying23, wc]⟩

theorem lab_range {n i : Nat} (r : Nat → Int) (c : Nat → Nat) (h : i < n) : lab ((List.range n).map fun i => (r i, c i)) i = (r i, c i) := by
  unfold lab
  rw [List.getD_eq_getElem?_getD, List.getElem?_map, List.getElem?_range h]
  rfl
set_option maxRecDepth 100000 in
/-- Labels that are handed in. -/
theorem open_labels {H : Type} {enc : TypeId × Value → H} {W : World} {base : Nat} {v : Value} {d : DataW H} {p : List MemPlace}
    (hv : Value.okWide Tryz.prog W .any base 22 v) (h : DataW.Trod enc Tryz.prog W 0 (fun _ => true) true 22 v d p) :
    ∃ (a : Option Addr) (ls : List Lab) (c : Nat), v = .slice a ls.length c ∧ LabsIn W a ls ∧ allW ls ∧ (ls.length = 0 → a = none → c = 0) ∧ ((d = .nil ∧ ls = []) ∨ ∃ elems spare, d = .slice elems spare ∧ elems.length = ls.length) := by
  obtain ⟨a, len, cap, rfl⟩ := okWide_slice Tryz.underlying22 hv
  obtain ⟨fuel, h⟩ := h
  have h' : DataW.trod enc Tryz.prog W 0 (fun _ => true) true fuel 22 [.slice a len cap] = some (d, p) := by simpa [Value.cells] using h
  rcases Deep.open_slice_pairs Tryz.underlying22 Tryz.underlying25 cellsL rfl rfl (by kernel_rfl) (by kernel_rfl) h' with ⟨e1, e2⟩ | ⟨ad, len', cap', m, n, V0, V1, D0, D1, P0, P1, e1, _, hl, _, hm, e2, hc⟩
  · simp only [List.cons.injEq, and_true, Value.slice.injEq] at e1
    obtain ⟨rfl, rfl, rfl⟩ := e1
    simp only [Prod.mk.injEq] at e2
    exact ⟨none, [], 0, rfl, fun i hi => by simp at hi, fun x hx => by simp at hx, fun _ _ => rfl, .inl ⟨e2.1, rfl⟩⟩
  · simp only [List.cons.injEq, and_true, Value.slice.injEq] at e1
    obtain ⟨rfl, rfl, rfl⟩ := e1
    simp only [if_true] at hm
    subst hm
    simp only [Prod.mk.injEq] at e2
    have each : ∀ i, i < len → V0 i = .int .i64 (intOf (V0 i)) ∧ V1 i = .int .u32 ((intOf (V1 i)).toNat : Nat) ∧ okW (intOf (V0 i), (intOf (V1 i)).toNat) := by
      intro i hi
      obtain ⟨_, _, t0, t1⟩ := hc i (by omega)
      obtain ⟨x, f0, _, wx⟩ := DataW.trod_int Tryz.underlying3 t0
      obtain ⟨y, f1, _, wy⟩ := DataW.trod_int Tryz.underlying23 t1
      simp at f0 f1
      have by_ := bounds_u32 wy
      have bx := bounds_i64 wx
      rw [f0, f1]
      refine ⟨rfl, ?_, ?_⟩
      · simp only [intOf]
        congr 1
        omega
      · simp only [okW, intOf]
        omega
    have hlen : ((List.range len).map fun i => (intOf (V0 i), (intOf (V1 i)).toNat)).length = len := by simp
    refine ⟨some ad, (List.range len).map fun i => (intOf (V0 i), (intOf (V1 i)).toNat), m, by rw [hlen], fun i hi => ?_, fun x hx => ?_, fun _ hh => (by cases hh), .inr ⟨_, _, e2.1, by simp⟩⟩
    · rw [hlen] at hi
      obtain ⟨k1, k2, _, _⟩ := hc i (by omega)
      obtain ⟨v0, v1, _⟩ := each i hi
      obtain ⟨b, o, sp⟩ := ad
      have hsp : sp = none := by
        obtain ⟨k0, _⟩ := hc 0 (by omega)
        cases sp with
        | none => rfl
        | some x =>
          exfalso
          rw [show (⟨b, o, some x⟩ : Addr).add (0 * 2) = ⟨b, o, some x⟩ from rfl] at k0
          unfold World.cell? at k0
          split at k0
          · simp at k0
          · cases k0
      subst hsp
      rw [Addr.add_lit] at k1 k2
      rw [lab_range _ _ hi]
      refine ⟨b, o, rfl, k1.trans (congrArg some v0), ?_⟩
      rw [Nat.add_assoc]
      exact k2.trans (congrArg some v1)
    · obtain ⟨i, hi, rfl⟩ := List.mem_map.1 hx
      exact (each i (List.mem_range.1 hi)).2.2
theorem bytesL : Tryz.prog.bytesOf 25 = 16 := by kernel_rfl
/-- As many as a machine has room for. -/
theorem labels_lim {H : Type} {ts : List TypeId} {ds : List (DataW H)} {d : DataW H} {ls : List Lab} (h : (DataW.weightsEach Tryz.prog ts ds).all (· ≤ reachBytes) = true) {j : Nat} (ht : ts[j]? = some 22) (hd : ds[j]? = some d)
    (hcase : (d = .nil ∧ ls = []) ∨ ∃ elems spare, d = .slice elems spare ∧ elems.length = ls.length) : ls.length * 16 ≤ 140737488355328 := by
  rcases hcase with ⟨_, rfl⟩ | ⟨elems, spare, rfl, e⟩
  · simp
  · have := sized_slice h ht hd Tryz.underlying22
    rw [bytesL] at this
    have h2 := reachBytes_lt
    have e3 : (2 : Nat) ^ 47 = 140737488355328 := by decide
    rw [← e]
    omega
end Go.Proofs.YtoompephogamaaaGreatDoor
