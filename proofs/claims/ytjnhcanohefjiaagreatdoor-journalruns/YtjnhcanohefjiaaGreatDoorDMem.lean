/- How a device lies in memory. -/
import Derived.Test.YtjnhcanohefjiaaGreatDoorDMath
import Derived.Test.YtjnhcanohefjiaaGreatDoorChecked
import Derived.WalkKit
import Derived.WalkSpells
import Derived.WalkLawsBesides
import Derived.Lib.QuietBelow
import Derived.Lib.Hide
import Derived.Deep.RegionWith
import Derived.Deep.RegionHeld
import Derived.Deep.RegionHeld3
import Derived.Deep.QuietTactic
import Derived.Deep.WholeRow
import Derived.Deep.OwnRows
import Derived.Laws.ResultCell
import Derived.Laws.BytesArg
import Derived.Lib.AppendStr
import Derived.LoopN
import Derived.WalkSmall
import Derived.IntWalk
import Derived.BigQuiet
import Derived.BigRegion
import Derived.OwnWalk
import Derived.Maps.RangeWalk
import Derived.DeepKeys4
import Derived.Test.YtjnhcanohefjiaaGreatDoorTMem
namespace Go.Proofs.YtjnhcanohefjiaaGreatDoor
open Go.RowKit Go.Sort Go.Maps

def inP (k : Pl) : Prop := inI k.1 ∧ inI k.2
theorem heap_far {w : World} {k b o : Nat} (v : Value) (h : k ≠ b) : (w.setCell ⟨b, o, none⟩ v).heap[k]? = w.heap[k]? := Deep.blk_setCell_other w ⟨b, o, none⟩ v k h
theorem vals_inj {xs ys : List Nat} (h : vals xs = vals ys) : xs = ys := by
  unfold vals at h
  induction xs generalizing ys with
  | nil => cases ys with
    | nil => rfl
    | cons y r => simp at h
  | cons x r ih => cases ys with
    | nil => simp at h
    | cons y s =>
      simp only [List.map_cons, List.cons.injEq, Value.int.injEq, true_and] at h
      rw [ih h.2, show x = y by omega]
/-- What a sector holds, as a value. -/
def ctV (c : Ct) : Value := .agg (vals c).toArray
def ctD (c : Ct) : DataW Unit := .agg ((vals c).map fun v => match v with | .int .u8 n => .lit (.int .u8 n) | _ => .nil)
def isByte : Value → Bool | .int .u8 n => decide (0 ≤ n) | _ => false
/-- How a sector's content reads as a map's element. -/
def ctE (v : Value) : Option (DataW Unit × List MemPlace) :=
  match v with
  | .agg cs => if cs.toList.all isByte = true then some (.agg (cs.toList.map fun v => match v with | .int .u8 n => .lit (.int .u8 n) | _ => .nil), []) else none
  | _ => none
theorem all_byte (c : Ct) : (vals c).all isByte = true := by
  rw [List.all_eq_true]
  intro v hv
  obtain ⟨x, _, rfl⟩ := List.mem_map.1 hv
  simp [isByte]
theorem ctE_ct (c : Ct) : ctE (ctV c) = some (ctD c, []) := by
  show (if (vals c).all isByte = true then _ else none) = _
  rw [if_pos (all_byte c)]
  rfl
theorem bytes_vals : ∀ {l : List Value}, l.all isByte = true → ∃ c, l = vals c
  | [], _ => ⟨[], rfl⟩
  | v :: l, h => by
    simp only [List.all_cons, Bool.and_eq_true] at h
    obtain ⟨c, rfl⟩ := bytes_vals h.2
    have h1 := h.1
    unfold isByte at h1
    split at h1
    · rename_i n
      refine ⟨n.toNat :: c, ?_⟩
      simp only [decide_eq_true_eq] at h1
      simp only [vals, List.map_cons, List.cons.injEq, Value.int.injEq, true_and, and_true]
      omega
    · cases h1
theorem ctE_form {v : Value} {y : DataW Unit × List MemPlace} (h : ctE v = some y) : ∃ c, v = ctV c := by
  unfold ctE at h
  split at h
  · rename_i cs
    split at h
    · rename_i hb
      obtain ⟨c, hc⟩ := bytes_vals hb
      exact ⟨c, by unfold ctV; rw [← hc]⟩
    · cases h
  · cases h
theorem dat_inj : ∀ {l : List Value} {c : Ct}, (l.map fun v => match v with | .int .u8 n => (DataW.lit (.int .u8 n) : DataW Unit) | _ => .nil) = ((vals c).map fun v => match v with | .int .u8 n => DataW.lit (.int .u8 n) | _ => .nil) → l = vals c
  | [], [], _ => rfl
  | [], _ :: _, h => by simp [vals] at h
  | _ :: _, [], h => by simp [vals] at h
  | v :: l, x :: c, h => by
    simp only [vals, List.map_cons, List.cons.injEq] at h
    have ih := dat_inj (l := l) (c := c) (by simpa [vals] using h.2)
    rw [ih]
    have h1 := h.1
    split at h1
    · simp only [DataW.lit.injEq, Lit.int.injEq, true_and] at h1
      rw [h1]; rfl
    · cases h1
theorem ctE_inv {v : Value} {y : DataW Unit × List MemPlace} {c : Ct} (h : ctE v = some y) (hy : y.1 = ctD c) : v = ctV c := by
  unfold ctE at h
  split at h
  · rename_i cs
    split at h
    · cases h
      unfold ctD at hy
      simp only [DataW.agg.injEq] at hy
      have := dat_inj hy
      unfold ctV
      rw [← this]
    · cases h
  · cases h
theorem ctD_inj {a b : Ct} (h : ctD a = ctD b) : a = b := by
  unfold ctD at h
  simp only [DataW.agg.injEq] at h
  exact vals_inj (dat_inj h)
/-- A place as a value. -/
def plV (k : Pl) : Value := .agg #[.int .i64 k.1, .int .i64 k.2]
def keyL (k : Pl) : Lit := .string (keyBytes [.int .i64 k.1, .int .i64 k.2])
theorem typesSize : Tryz.prog.types.size = 236 := by kernel_rfl
theorem laidOut : laidOutB Tryz.prog = true := by kernel_rfl
theorem keyed : Keyed Tryz.prog 132 := Keyed.of_law (deep_law_laid laidOut (m := 8) (by decide) (by rw [typesSize]; decide) (by kernel_rfl) (by kernel_rfl))
theorem keyOf_eq (v : Value) : keyOf Tryz.prog 132 v = if v.formed Tryz.prog 132 = true then (Tryz.prog.keyLits (Tryz.prog.types.size + 1) 132 v.cells.toList).map fun ls => .string (keyBytes ls) else none := by
  have e : Tryz.prog.keyType 132 = true := by kernel_rfl
  unfold keyOf
  rw [Tryz.underlying132]
  simp only [e, Bool.true_and]
theorem key_ (k : Pl) (h : inP k) : keyOf Tryz.prog 132 (plV k) = some (keyL k) := by
  have c : Tryz.prog.cellsOf 132 = 2 := by kernel_rfl
  have c3 : Tryz.prog.cellsOf 3 = 1 := by kernel_rfl
  obtain ⟨d, hd⟩ : ∃ d, Tryz.prog.types.size = d + 1 := ⟨236 - 1, by rw [typesSize]⟩
  obtain ⟨⟨h1, h2⟩, h3, h4⟩ := h
  have w1 : (Lit.int .i64 k.1).wf = true := by simp [Lit.wf]; exact ⟨h1, h2⟩
  have w2 : (Lit.int .i64 k.2).wf = true := by simp [Lit.wf]; exact ⟨h3, h4⟩
  have hl : Tryz.prog.keyLits (Tryz.prog.types.size + 1) 132 [.int .i64 k.1, .int .i64 k.2] = some [.int .i64 k.1, .int .i64 k.2] := by
    rw [hd]
    simp [Program.keyLits, Tryz.underlying132, Tryz.underlying3, c, c3, w1, w2]
  rw [keyOf_eq, if_pos (by simp [plV, Value.formed, Tryz.underlying132, c])]
  simp only [plV, Value.cells, hl]
  rfl
theorem wf_inI {n : Int} (h : (Lit.int .i64 n).wf = true) : inI n := by
  simp only [Lit.wf, Bool.and_eq_true, decide_eq_true_eq] at h
  exact h
theorem lits_int {P : Program} {t : TypeId} (hu : P.underlying t = some (.int .i64)) (d : Nat) (v : Value) (a : List Lit) (hv : P.keyLits (d + 1) t [v] = some a) : ∃ n, v = .int .i64 n ∧ inI n ∧ a = [.int .i64 n] := by
  unfold Program.keyLits at hv
  rw [hu] at hv
  cases v <;> try (simp at hv; done)
  rename_i q n
  simp only [Option.ite_none_right_eq_some, Option.some.injEq] at hv
  obtain ⟨⟨rfl, hw⟩, rfl⟩ := hv
  exact ⟨n, rfl, wf_inI hw, rfl⟩
theorem two_of {α : Type} {l : List α} (h : l.length = 2) : ∃ x y, l = [x, y] := by
  cases l with
  | nil => simp at h
  | cons x l => cases l with
    | nil => simp at h
    | cons y l => cases l with
      | nil => exact ⟨x, y, rfl⟩
      | cons z l => simp at h
theorem key_inv {v : Value} {kl : Lit} (h : keyOf Tryz.prog 132 v = some kl) : ∃ k, v = plV k ∧ inP k ∧ kl = keyL k := by
  have c : Tryz.prog.cellsOf 132 = 2 := by kernel_rfl
  have c3 : Tryz.prog.cellsOf 3 = 1 := by kernel_rfl
  obtain ⟨d, hd⟩ : ∃ d, Tryz.prog.types.size = d + 1 := ⟨236 - 1, by rw [typesSize]⟩
  rw [keyOf_eq] at h
  split at h
  · rename_i hf
    cases v with
    | agg cs =>
      simp only [Value.formed, Tryz.underlying132, c, beq_iff_eq] at hf
      obtain ⟨l⟩ := cs
      obtain ⟨x, y, rfl⟩ := two_of (show l.length = 2 from hf)
      rw [hd] at h
      have hx := fun (v : Value) (a : List Lit) => lits_int (P := Tryz.prog) (t := 3) Tryz.underlying3 d v a
      have hs : Tryz.prog.keyLits (d + 1 + 1) 132 [x, y] = (Tryz.prog.keyLits (d + 1) 3 [x]).bind fun a => (Tryz.prog.keyLits (d + 1) 3 [y]).map fun b => a ++ b := by
        conv => lhs; unfold Program.keyLits
        rw [Tryz.underlying132]
        simp [c, c3]
        cases Tryz.prog.keyLits (d + 1) 3 [x] <;> cases Tryz.prog.keyLits (d + 1) 3 [y] <;> simp
      simp only [Value.cells] at h
      rw [hs] at h
      cases h1 : Tryz.prog.keyLits (d + 1) 3 [x] with
      | none => rw [h1] at h; simp at h
      | some a1 =>
        cases h2 : Tryz.prog.keyLits (d + 1) 3 [y] with
        | none => rw [h1, h2] at h; simp at h
        | some a2 =>
          rw [h1, h2] at h
          obtain ⟨n, rfl, i1, rfl⟩ := hx x a1 h1
          obtain ⟨m, rfl, i2, rfl⟩ := hx y a2 h2
          simp at h
          exact ⟨(n, m), rfl, ⟨i1, i2⟩, h.symm⟩
    | _ => simp [Value.formed, Tryz.underlying132] at hf
  · cases h
end Go.Proofs.YtjnhcanohefjiaaGreatDoor
