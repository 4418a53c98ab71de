/- How a device lies in memory; A device in memory; what stays when one is worked on; The walks of New, hasRegion, has, filled, spend, Arm, Crashed, Size; The walks of has, spend, Arm, Size; Regions that draw their order, by hand: one operation taken first; a load, a look-up, a store into a map, a delete. -/
import Derived.Test.YtjnhcanohefjiaaGreatDoorJPB
import Derived.Test.YtjnhcanohefjiaaGreatDoorChecked
import Derived.WalkKit
import Derived.WalkSpells
import Derived.WalkLawsBesides
import Derived.Lib.QuietBelow
import Derived.Lib.Hide
import Derived.Deep.RegionWith
import Derived.Deep.RegionHeld
import Derived.Deep.RegionHeld3
import Derived.Deep.QuietTactic
import Derived.Deep.WholeRow
import Derived.Deep.OwnRows
import Derived.Laws.ResultCell
import Derived.Laws.BytesArg
import Derived.Lib.AppendStr
import Derived.LoopN
import Derived.WalkSmall
import Derived.IntWalk
import Derived.BigQuiet
import Derived.BigRegion
import Derived.OwnWalk
import Derived.Maps.RangeWalk
import Derived.DeepKeys4
import Derived.Test.YtjnhcanohefjiaaGreatDoorTMem
import Derived.Laws.CopyOwn
namespace Go.Proofs.YtjnhcanohefjiaaGreatDoor
open Go.RowKit Go.Sort Go.Maps

def inP (k : Pl) : Prop := inI k.1 ∧ inI k.2
theorem heap_far {w : World} {k b o : Nat} (v : Value) (h : k ≠ b) : (w.setCell ⟨b, o, none⟩ v).heap[k]? = w.heap[k]? := Deep.blk_setCell_other w ⟨b, o, none⟩ v k h
theorem vals_inj {xs ys : List Nat} (h : vals xs = vals ys) : xs = ys := by
  unfold vals at h
  induction xs generalizing ys with
  | nil => cases ys with
    | nil => rfl
    | cons y r => simp at h
  | cons x r ih => cases ys with
    | nil => simp at h
    | cons y s =>
      simp only [List.map_cons, List.cons.injEq, Value.int.injEq, true_and] at h
      rw [ih h.2, show x = y by omega]
/-- What a sector holds, as a value. -/
def ctV (c : Ct) : Value := .agg (vals c).toArray
def ctD (c : Ct) : DataW Unit := .agg ((vals c).map fun v => match v with | .int .u8 n => .lit (.int .u8 n) | _ => .nil)
def isByte : Value → Bool | .int .u8 n => decide (0 ≤ n) | _ => false
/-- How a sector's content reads as a map's element. -/
def ctE (v : Value) : Option (DataW Unit × List MemPlace) :=
  match v with
  | .agg cs => if cs.toList.all isByte = true then some (.agg (cs.toList.map fun v => match v with | .int .u8 n => .lit (.int .u8 n) | _ => .nil), []) else none
  | _ => none
theorem all_byte (c : Ct) : (vals c).all isByte = true := by
  rw [List.all_eq_true]
  intro v hv
  obtain ⟨x, _, rfl⟩ := List.mem_map.1 hv
  simp [isByte]
theorem ctE_ct (c : Ct) : ctE (ctV c) = some (ctD c, []) := by
  show (if (vals c).all isByte = true then _ else none) = _
  rw [if_pos (all_byte c)]
  rfl
theorem bytes_vals : ∀ {l : List Value}, l.all isByte = true → ∃ c, l = vals c
  | [], _ => ⟨[], rfl⟩
  | v :: l, h => by
    simp only [List.all_cons, Bool.and_eq_true] at h
    obtain ⟨c, rfl⟩ := bytes_vals h.2
    have h1 := h.1
    unfold isByte at h1
    split at h1
    · rename_i n
      refine ⟨n.toNat :: c, ?_⟩
      simp only [decide_eq_true_eq] at h1
      simp only [vals, List.map_cons, List.cons.injEq, Value.int.injEq, true_and, and_true]
      omega
    · cases h1
theorem ctE_form {v : Value} {y : DataW Unit × List MemPlace} (h : ctE v = some y) : ∃ c, v = ctV c := by
  unfold ctE at h
  split at h
  · rename_i cs
    split at h
    · rename_i hb
      obtain ⟨c, hc⟩ := bytes_vals hb
      exact ⟨c, by unfold ctV; rw [← hc]⟩
    · cases h
  · cases h
theorem dat_inj : ∀ {l : List Value} {c : Ct}, (l.map fun v => match v with | .int .u8 n => (DataW.lit (.int .u8 n) : DataW Unit) | _ => .nil) = ((vals c).map fun v => match v with | .int .u8 n => DataW.lit (.int .u8 n) | _ => .nil) → l = vals c
  | [], [], _ => rfl
  | [], _ :: _, h => by simp [vals] at h
  | _ :: _, [], h => by simp [vals] at h
  | v :: l, x :: c, h => by
    simp only [vals, List.map_cons, List.cons.injEq] at h
    have ih := dat_inj (l := l) (c := c) (by simpa [vals] using h.2)
    rw [ih]
    have h1 := h.1
    split at h1
    · simp only [DataW.lit.injEq, Lit.int.injEq, true_and] at h1
      rw [h1]; rfl
    · cases h1
theorem ctE_inv {v : Value} {y : DataW Unit × List MemPlace} {c : Ct} (h : ctE v = some y) (hy : y.1 = ctD c) : v = ctV c := by
  unfold ctE at h
  split at h
  · rename_i cs
    split at h
    · cases h
      unfold ctD at hy
      simp only [DataW.agg.injEq] at hy
      have := dat_inj hy
      unfold ctV
      rw [← this]
    · cases h
  · cases h
theorem ctD_inj {a b : Ct} (h : ctD a = ctD b) : a = b := by
  unfold ctD at h
  simp only [DataW.agg.injEq] at h
  exact vals_inj (dat_inj h)
/-- A place as a value. -/
def plV (k : Pl) : Value := .agg #[.int .i64 k.1, .int .i64 k.2]
def keyL (k : Pl) : Lit := .string (keyBytes [.int .i64 k.1, .int .i64 k.2])
theorem typesSize : Tryz.prog.types.size = 236 := by kernel_rfl
theorem laidOut : laidOutB Tryz.prog = true := by kernel_rfl
theorem keyed : Keyed Tryz.prog 132 := Keyed.of_law (deep_law_laid laidOut (m := 8) (by decide) (by rw [typesSize]; decide) (by kernel_rfl) (by kernel_rfl))
theorem keyOf_eq (v : Value) : keyOf Tryz.prog 132 v = if v.formed Tryz.prog 132 = true then (Tryz.prog.keyLits (Tryz.prog.types.size + 1) 132 v.cells.toList).map fun ls => .string (keyBytes ls) else none := by
  have e : Tryz.prog.keyType 132 = true := by kernel_rfl
  unfold keyOf
  rw [Tryz.underlying132]
  simp only [e, Bool.true_and]
theorem key_ (k : Pl) (h : inP k) : keyOf Tryz.prog 132 (plV k) = some (keyL k) := by
  have c : Tryz.prog.cellsOf 132 = 2 := by kernel_rfl
  have c3 : Tryz.prog.cellsOf 3 = 1 := by kernel_rfl
  obtain ⟨d, hd⟩ : ∃ d, Tryz.prog.types.size = d + 1 := ⟨236 - 1, by rw [typesSize]⟩
  obtain ⟨⟨h1, h2⟩, h3, h4⟩ := h
  have w1 : (Lit.int .i64 k.1).wf = true := by simp [Lit.wf]; exact ⟨h1, h2⟩
  have w2 : (Lit.int .i64 k.2).wf = true := by simp [Lit.wf]; exact ⟨h3, h4⟩
  have hl : Tryz.prog.keyLits (Tryz.prog.types.size + 1) 132 [.int .i64 k.1, .int .i64 k.2] = some [.int .i64 k.1, .int .i64 k.2] := by
    rw [hd]
    simp [Program.keyLits, Tryz.underlying132, Tryz.underlying3, c, c3, w1, w2]
  rw [keyOf_eq, if_pos (by simp [plV, Value.formed, Tryz.underlying132, c])]
  simp only [plV, Value.cells, hl]
  rfl
theorem wf_inI {n : Int} (h : (Lit.int .i64 n).wf = true) : inI n := by
  simp only [Lit.wf, Bool.and_eq_true, decide_eq_true_eq] at h
  exact h
theorem lits_int {P : Program} {t : TypeId} (hu : P.underlying t = some (.int .i64)) (d : Nat) (v : Value) (a : List Lit) (hv : P.keyLits (d + 1) t [v] = some a) : ∃ n, v = .int .i64 n ∧ inI n ∧ a = [.int .i64 n] := by
  unfold Program.keyLits at hv
  rw [hu] at hv
  cases v <;> try (simp at hv; done)
  rename_i q n
  simp only [Option.ite_none_right_eq_some, Option.some.injEq] at hv
  obtain ⟨⟨rfl, hw⟩, rfl⟩ := hv
  exact ⟨n, rfl, wf_inI hw, rfl⟩
theorem two_of {α : Type} {l : List α} (h : l.length = 2) : ∃ x y, l = [x, y] := by
  cases l with
  | nil => simp at h
  | cons x l => cases l with
    | nil => simp at h
    | cons y l => cases l with
      | nil => exact ⟨x, y, rfl⟩
      | cons z l => simp at h
theorem key_inv {v : Value} {kl : Lit} (h : keyOf Tryz.prog 132 v = some kl) : ∃ k, v = plV k ∧ inP k ∧ kl = keyL k := by
  have c : Tryz.prog.cellsOf 132 = 2 := by kernel_rfl
  have c3 : Tryz.prog.cellsOf 3 = 1 := by kernel_rfl
  obtain ⟨d, hd⟩ : ∃ d, Tryz.prog.types.size = d + 1 := ⟨236 - 1, by rw [typesSize]⟩
  rw [keyOf_eq] at h
  split at h
  · rename_i hf
    cases v with
    | agg cs =>
      simp only [Value.formed, Tryz.underlying132, c, beq_iff_eq] at hf
      obtain ⟨l⟩ := cs
      obtain ⟨x, y, rfl⟩ := two_of (show l.length = 2 from hf)
      rw [hd] at h
      have hx := fun (v : Value) (a : List Lit) => lits_int (P := Tryz.prog) (t := 3) Tryz.underlying3 d v a
      have hs : Tryz.prog.keyLits (d + 1 + 1) 132 [x, y] = (Tryz.prog.keyLits (d + 1) 3 [x]).bind fun a => (Tryz.prog.keyLits (d + 1) 3 [y]).map fun b => a ++ b := by
        conv => lhs; unfold Program.keyLits
        rw [Tryz.underlying132]
        simp [c, c3]
        cases Tryz.prog.keyLits (d + 1) 3 [x] <;> cases Tryz.prog.keyLits (d + 1) 3 [y] <;> simp
      simp only [Value.cells] at h
      rw [hs] at h
      cases h1 : Tryz.prog.keyLits (d + 1) 3 [x] with
      | none => rw [h1] at h; simp at h
      | some a1 =>
        cases h2 : Tryz.prog.keyLits (d + 1) 3 [y] with
        | none => rw [h1, h2] at h; simp at h
        | some a2 =>
          rw [h1, h2] at h
          obtain ⟨n, rfl, i1, rfl⟩ := hx x a1 h1
          obtain ⟨m, rfl, i2, rfl⟩ := hx y a2 h2
          simp at h
          exact ⟨(n, m), rfl, ⟨i1, i2⟩, h.symm⟩
    | _ => simp [Value.formed, Tryz.underlying132] at hf
  · cases h
end Go.Proofs.YtjnhcanohefjiaaGreatDoor

namespace Go.Proofs.YtjnhcanohefjiaaGreatDoor
open Go.RowKit Go.Sort Go.Maps

theorem plV_inj {a b : Pl} (h : plV a = plV b) : a = b := by
  obtain ⟨a1, a2⟩ := a; obtain ⟨b1, b2⟩ := b
  simp only [plV, Value.agg.injEq, Array.mk.injEq, List.cons.injEq, Value.int.injEq, true_and, and_true] at h
  rw [h.1, h.2]
theorem keyL_inj {a b : Pl} (ha : inP a) (hb : inP b) (h : keyL a = keyL b) : a = b :=
  plV_inj (keyed.inj (key_ a ha) (h ▸ key_ b hb))
theorem keyL_ne {a b : Pl} (ha : inP a) (hb : inP b) (h : a ≠ b) : keyL a ≠ keyL b := fun e => h (keyL_inj ha hb e)
theorem key_isKey {a : Pl} (ha : inP a) : WideAt.IsKeyLit (keyL a) := keyed.key (key_ a ha)
theorem sameKey_iff {a b : Pl} (ha : inP a) (hb : inP b) : (keyL a).sameKey (keyL b) = decide (a = b) := by
  by_cases h : a = b
  · rw [h, WideAt.sameKey_self (key_isKey hb)]; simp
  · rw [sameKey_ne (keyL_ne ha hb h)]; simp [h]
/-- What is safe, as a map reads. -/
def SafeIs (D : DataW Unit) (f : Pl → Ct) : Prop := ∀ k, inP k → D.atKey (keyL k) (ctD zeroC) = ctD (f k)
/-- What is pending, as a map reads. -/
def PendIs (D : DataW Unit) (l : List (Pl × Ct)) : Prop := ∀ k, inP k → has D (keyL k) = (getP l k).isSome ∧ ∀ c, getP l k = some c → ∀ zd, D.atKey (keyL k) zd = ctD c
theorem SafeIs.put {D : DataW Unit} {f : Pl → Ct} (h : SafeIs D f) (hD : IsMap D) {k : Pl} (hk : inP k) (c : Ct) : SafeIs (D.put (keyL k) (ctD c)) (updC f k c) := by
  intro j hj
  by_cases e : j = k
  · subst e; rw [atKey_put_same hD (key_isKey hk)]; simp [updC]
  · rw [atKey_put_other (keyL_ne hj hk e), h j hj]; simp [updC, e]
theorem PendIs.put {D : DataW Unit} {l : List (Pl × Ct)} (h : PendIs D l) (hD : IsMap D) {k : Pl} (hk : inP k) (c : Ct) : PendIs (D.put (keyL k) (ctD c)) (putP l k c) := by
  intro j hj
  by_cases e : j = k
  · subst e
    rw [getP_put_same]
    exact ⟨by rw [has_put_same hD (key_isKey hk)]; rfl, fun c' hc' zd => by cases hc'; exact atKey_put_same hD (key_isKey hk) _ _⟩
  · rw [getP_put_other _ _ _ _ e, has_put_other (keyL_ne hj hk e)]
    exact ⟨(h j hj).1, fun c' hc' zd => by rw [atKey_put_other (keyL_ne hj hk e)]; exact (h j hj).2 c' hc' zd⟩
theorem PendIs.del {D : DataW Unit} {l : List (Pl × Ct)} (h : PendIs D l) {k : Pl} (hk : inP k) : PendIs (D.del (keyL k)) (l.filter (fun x => decide (x.1 ≠ k))) := by
  intro j hj
  rw [getP_filter (fun p => decide (p ≠ k))]
  by_cases e : j = k
  · subst e
    simp [has_del_same]
  · rw [if_pos (by simp [e]), has_del_other (keyL_ne hj hk e)]
    exact ⟨(h j hj).1, fun c' hc' zd => by rw [atKey_del_other (keyL_ne hj hk e)]; exact (h j hj).2 c' hc' zd⟩
theorem PendIs.nil : PendIs (.map []) [] := fun k _ => ⟨rfl, fun c hc => by cases hc⟩
theorem SafeIs.nil : SafeIs (.map []) (fun _ => zeroC) := fun _ _ => rfl
/-- A device's cells. -/
def devC (d : Dev) (a b : Nat) : Array Value := #[.int .i64 d.r, .int .i64 d.s, .map (some a), .map (some b), .bool d.armed, .int .i64 d.left, .bool d.crashed]
/-- A device: its own block p, what is safe in the map a, what is pending in the map b; K: how many writes there were at most. -/
structure DevIn (w : World) (p a b : Nat) (d : Dev) (K : Nat) : Prop where
  blk : w.heap[p]? = some (.cells (devC d a b) 71 (0, 0))
  ne : a ≠ b
  safe : ∃ n D, w.ownsMap Tryz.prog 132 ctE a n D ∧ SafeIs D d.safe ∧ n + d.pend.length ≤ K
  pend : ∃ n D, w.ownsMap Tryz.prog 132 ctE b n D ∧ PendIs D d.pend ∧ n ≤ K
  ok : okD d
  lim : 1 ≤ d.r ∧ d.r ≤ 16 ∧ 1 ≤ d.s ∧ d.s ≤ 16384
  lft : 0 ≤ d.left ∧ d.left ≤ 9223372036854775807
  kl : K ≤ 1000000
theorem inP_of {d : Dev} {k : Pl} (h : hasD d k) (hl : 1 ≤ d.r ∧ d.r ≤ 16 ∧ 1 ≤ d.s ∧ d.s ≤ 16384) : inP k := by
  unfold hasD at h; unfold inP inI; omega
theorem DevIn.mapA {w : World} {p a b : Nat} {d : Dev} {K : Nat} (h : DevIn w p a b d K) : ∃ es cl, w.heap[a]? = some (.map es cl) := by
  obtain ⟨n, D, ⟨es, cl, h1, _⟩, _⟩ := h.safe
  exact ⟨es, cl, h1⟩
theorem DevIn.mapB {w : World} {p a b : Nat} {d : Dev} {K : Nat} (h : DevIn w p a b d K) : ∃ es cl, w.heap[b]? = some (.map es cl) := by
  obtain ⟨n, D, ⟨es, cl, h1, _⟩, _⟩ := h.pend
  exact ⟨es, cl, h1⟩
theorem DevIn.pa {w : World} {p a b : Nat} {d : Dev} {K : Nat} (h : DevIn w p a b d K) : p ≠ a := fun e => by
  obtain ⟨es, cl, h1⟩ := h.mapA
  rw [← e, h.blk] at h1; cases h1
theorem DevIn.pb {w : World} {p a b : Nat} {d : Dev} {K : Nat} (h : DevIn w p a b d K) : p ≠ b := fun e => by
  obtain ⟨es, cl, h1⟩ := h.mapB
  rw [← e, h.blk] at h1; cases h1
theorem DevIn.lts {w : World} {p a b : Nat} {d : Dev} {K : Nat} (h : DevIn w p a b d K) : p < w.heap.size ∧ a < w.heap.size ∧ b < w.heap.size := by
  obtain ⟨es, cl, h1⟩ := h.mapA
  obtain ⟨es', cl', h2⟩ := h.mapB
  exact ⟨blk_lt h.blk, blk_lt h1, blk_lt h2⟩
theorem owns_keep {w w' : World} {a n : Nat} {D : DataW Unit} (h : w.ownsMap Tryz.prog 132 ctE a n D) (e : w'.heap[a]? = w.heap[a]?) : w'.ownsMap Tryz.prog 132 ctE a n D := by
  obtain ⟨es, cl, h1, h2⟩ := h
  exact ⟨es, cl, e.trans h1, h2⟩
/-- It is there as long as its three blocks stay. -/
theorem DevIn.keep {w w' : World} {p a b : Nat} {d : Dev} {K : Nat} (h : DevIn w p a b d K) (e1 : w'.heap[p]? = w.heap[p]?) (e2 : w'.heap[a]? = w.heap[a]?) (e3 : w'.heap[b]? = w.heap[b]?) : DevIn w' p a b d K := by
  obtain ⟨n, D, h1, h2⟩ := h.safe
  obtain ⟨m, E, h3, h4⟩ := h.pend
  exact ⟨e1.trans h.blk, h.ne, ⟨n, D, owns_keep h1 e2, h2⟩, ⟨m, E, owns_keep h3 e3, h4⟩, h.ok, h.lim, h.lft, h.kl⟩
theorem DevIn.on {w w' : World} {p a b : Nat} {d : Dev} {K : Nat} (h : DevIn w p a b d K) (hb : Below w.heap.size w w') : DevIn w' p a b d K :=
  h.keep (hb.block p h.lts.1) (hb.block a h.lts.2.1) (hb.block b h.lts.2.2)
theorem DevIn.mono {w : World} {p a b : Nat} {d : Dev} {K K' : Nat} (h : DevIn w p a b d K) (hk : K ≤ K') (hl : K' ≤ 1000000) : DevIn w p a b d K' := by
  obtain ⟨n, D, h1, h2, h3⟩ := h.safe
  obtain ⟨m, E, h4, h5, h6⟩ := h.pend
  exact ⟨h.blk, h.ne, ⟨n, D, h1, h2, by omega⟩, ⟨m, E, h4, h5, by omega⟩, h.ok, h.lim, h.lft, hl⟩
/-- What stays while a device is worked on: all but its three blocks. -/
structure Fd (p a b : Nat) (w w' : World) : Prop where
  os : w'.os = w.os
  tape : w'.tape = w.tape
  output : w'.output = w.output
  size : w.heap.size ≤ w'.heap.size
  block : ∀ k, k < w.heap.size → k ≠ p → k ≠ a → k ≠ b → w'.heap[k]? = w.heap[k]?
theorem Fd.refl (p a b : Nat) (w : World) : Fd p a b w w := ⟨rfl, rfl, rfl, Nat.le_refl _, fun _ _ _ _ _ => rfl⟩
theorem Fd.trans {p a b : Nat} {w w' w'' : World} (h : Fd p a b w w') (k : Fd p a b w' w'') : Fd p a b w w'' :=
  ⟨k.os.trans h.os, k.tape.trans h.tape, k.output.trans h.output, Nat.le_trans h.size k.size, fun i hi h1 h2 h3 => (k.block i (Nat.lt_of_lt_of_le hi h.size) h1 h2 h3).trans (h.block i hi h1 h2 h3)⟩
theorem below_fd {w w' : World} (h : Below w.heap.size w w') (p a b : Nat) : Fd p a b w w' := ⟨h.os, h.tape, h.output, h.size, fun k hk _ _ _ => h.block k hk⟩
theorem Fd.below {p a b N : Nat} {w w' : World} (h : Fd p a b w w') (h0 : N ≤ w.heap.size) (hp : N ≤ p) (ha : N ≤ a) (hb : N ≤ b) : Below N w w' :=
  ⟨h.os, h.tape, h.output, h.size, fun k hk => h.block k (by omega) (by omega) (by omega) (by omega)⟩
theorem turned_fd {p a b m : Nat} {w w' : World} (h : w.mapTurned w' m) (hm : m = a ∨ m = b) : Fd p a b w w' := by
  have hg := h.grown
  exact ⟨hg.os, hg.tape, hg.output, hg.size, fun k hk _ h2 h3 => hg.block k hk (fun e => by simp only [Option.some.injEq] at e; omega)⟩
theorem set_fd (p a b o : Nat) (w : World) (v : Value) : Fd p a b w (w.setCell ⟨p, o, none⟩ v) := ⟨rfl, rfl, rfl, by simp [World.setCell], fun k _ h1 _ _ => heap_far v h1⟩
theorem DevIn.cells {w : World} {p a b : Nat} {d : Dev} {K : Nat} (h : DevIn w p a b d K) : w.cell? ⟨p, 0, none⟩ = some (.int .i64 d.r) ∧ w.cell? ⟨p, 1, none⟩ = some (.int .i64 d.s) ∧ w.cell? ⟨p, 2, none⟩ = some (.map (some a)) ∧ w.cell? ⟨p, 3, none⟩ = some (.map (some b)) ∧ w.cell? ⟨p, 4, none⟩ = some (.bool d.armed) ∧ w.cell? ⟨p, 5, none⟩ = some (.int .i64 d.left) ∧ w.cell? ⟨p, 6, none⟩ = some (.bool d.crashed) :=
  ⟨cell_of h.blk rfl, cell_of h.blk rfl, cell_of h.blk rfl, cell_of h.blk rfl, cell_of h.blk rfl, cell_of h.blk rfl, cell_of h.blk rfl⟩
/-- The content of a sector in a block of its own. -/
def CtAt (w : World) (b : Nat) (c : Ct) : Prop := w.heap[b]? = some (.cells (vals c).toArray 137 (0, 0))
theorem infoC : (Tryz.prog.info? 137).map (fun i => (i.zero, i.size)) = some (some (.agg (Array.replicate 64 (.int .u8 0))), 64) := by kernel_rfl
theorem sizeB : (Tryz.prog.info? 5).map (·.size) = some 1 := by kernel_rfl
theorem zero_vals : Array.replicate 64 (Value.int .u8 0) = (vals zeroC).toArray := by
  apply Array.toList_inj.1
  simp [vals, zeroC]
theorem load_ct {w : World} {b : Nat} {c : Ct} (h : CtAt w b c) (hc : c.length = 64) : (Instr.loadAt 137 (.pointer (some ⟨b, 0, none⟩))).run Tryz.prog w = .ok (ctV c) w := by
  simp only [Instr.loadAt, Instr.sureAddr, Sem.run_bind, Sem.run_pure, Result.andThen]
  exact run_loadVar_row w b 137 137 _ (0, 0) _ h Tryz.underlying137 rfl (by rw [List.size_toArray, vals_len, hc]; exact (zero_of_info infoC).2)
theorem store_ct {w : World} {b : Nat} {c c' : Ct} (h : CtAt w b c) (hc : c.length = 64) (hc' : c'.length = 64) : (Instr.storeAt 137 (.pointer (some ⟨b, 0, none⟩)) (ctV c')).run Tryz.prog w = .ok () (w.setRow b (vals c').toArray) := by
  simp only [Instr.storeAt, Instr.sureAddr, Sem.run_bind, Sem.run_pure, Result.andThen]
  exact run_storeVar_row w b 137 137 _ _ h (by rw [List.size_toArray, vals_len, hc']; exact (zero_of_info infoC).2) (by simp [vals_len, hc, hc']) (by rw [Array.all_eq_true_iff_forall_mem]; intro v hv; exact vals_one c' v (by simpa using hv))
theorem CtAt.set {w : World} {b : Nat} {c : Ct} (h : CtAt w b c) (c' : Ct) : CtAt (w.setRow b (vals c').toArray) b c' := setRow_heap w b _ _ 137 (0, 0) h
theorem CtAt.on {w w' : World} {b : Nat} {c : Ct} (h : CtAt w b c) (hb : Below w.heap.size w w') : CtAt w' b c := (hb.block b (blk_lt h)).trans h
theorem loadVar_ct {w : World} {b : Nat} {c : Ct} (h : CtAt w b c) (hc : c.length = 64) : (loadVar 137 ⟨b, 0, none⟩).run Tryz.prog w = .ok (ctV c) w :=
  run_loadVar_row w b 137 137 _ (0, 0) _ h Tryz.underlying137 rfl (by rw [List.size_toArray, vals_len, hc]; exact (zero_of_info infoC).2)
theorem BytesIn.take {w : World} {a : Option Addr} {xs : List Nat} (h : BytesIn w a xs) (n : Nat) : BytesIn w a (xs.take n) := by
  intro i hi
  rw [List.length_take] at hi
  obtain ⟨b, o, e, h1⟩ := h i (by omega)
  refine ⟨b, o, e, ?_⟩
  rw [h1, List.getD_eq_getElem?_getD, List.getD_eq_getElem?_getD, List.getElem?_take_of_lt (by omega)]
theorem ct_bytes {w : World} {b : Nat} {c : Ct} (t : TypeId) (h : w.heap[b]? = some (.cells (vals c).toArray t (0, 0))) : BytesIn w (some ⟨b, 0, none⟩) c := by
  intro i hi
  refine ⟨b, 0, rfl, ?_⟩
  rw [Nat.zero_add]
  exact cell_of h (by simpa using vals_get c i hi)
end Go.Proofs.YtjnhcanohefjiaaGreatDoor

namespace Go.Proofs.YtjnhcanohefjiaaGreatDoor
open Go.RowKit Go.Sort Go.Maps

theorem below_two (w : World) (o o' : Obj) : Below w.heap.size w ((w.alloc o).alloc o') := ((Below.refl _ _).alloc (Nat.le_refl _) _).alloc (by simp) _
theorem heap_two (w : World) (o o' : Obj) : ((w.alloc o).alloc o').heap[w.heap.size + 1]? = some o' ∧ ((w.alloc o).alloc o').heap[w.heap.size]? = some o := by
  constructor
  · have := World.alloc_heap_new' (w.alloc o) o'
    simpa using this
  · show ((w.heap.push o).push o')[w.heap.size]? = some o
    simp [Array.getElem?_push]
theorem new_dev (w : World) (r s : Int) (h : 1 ≤ r ∧ r ≤ 16 ∧ 1 ≤ s ∧ s ≤ 16384) :
    DevIn (((w.alloc (.map #[] 0)).alloc (.map #[] 0)).alloc (.cells #[.int .i64 r, .int .i64 s, .map (some w.heap.size), .map (some (w.heap.size + 1)), .bool false, .int .i64 0, .bool false] 71)) (w.heap.size + 2) w.heap.size (w.heap.size + 1) (newD r s) 0 := by
  have e : ((w.alloc (.map #[] 0)).alloc (.map #[] 0)).heap.size = w.heap.size + 2 := by simp
  have o1 := (World.ownsMap_made w Tryz.prog 132 ctE).alloc (.map #[] 0)
  have o2 := World.ownsMap_made (w.alloc (.map #[] 0)) Tryz.prog 132 ctE
  rw [World.size_alloc] at o2
  refine ⟨?_, by omega, ⟨0, _, o1.alloc _, SafeIs.nil, Nat.le_refl _⟩, ⟨0, _, o2.alloc _, PendIs.nil, Nat.le_refl _⟩, okD_new r s, h, ⟨by show (0 : Int) ≤ 0; omega, by show (0 : Int) ≤ _; omega⟩, by omega⟩
  rw [← e]
  exact World.alloc_heap_new' _ _
set_option maxHeartbeats 1000000 in
theorem new_ (r s : Int) (w : World) (h : 1 ≤ r ∧ r ≤ 16 ∧ 1 ≤ s ∧ s ≤ 16384) :
    Calls Tryz.prog 5 #[.int .i64 r, .int .i64 s] w fun e w' => e = .returned (.tuple #[pt (w.heap.size + 2), .nilIface]) ∧ Below w.heap.size w w' ∧ DevIn w' (w.heap.size + 2) w.heap.size (w.heap.size + 1) (newD r s) 0 := by
  have h1 : decide (r < 1) = false := decide_eq_false (by omega)
  have h2 : decide (r > 16) = false := decide_eq_false (by omega)
  have h3 : decide (s < 1) = false := decide_eq_false (by omega)
  have h4 : decide (s > 16384) = false := decide_eq_false (by omega)
  have hmm := @run_makeMap Tryz.prog
  have HL := Lib.hid h
  clear h
  go_enter Tryz.func5, Tryz.ntmps5
  go_wp2_with fail
  go_ret2
  exact ⟨rfl, (below_two w _ _).alloc (by simp; omega) _, new_dev w r s HL.out⟩
set_option maxHeartbeats 1000000 in
theorem hasRegion_ {w : World} {p a b : Nat} {d : Dev} {K : Nat} (h : DevIn w p a b d K) (g : Int) :
    Calls Tryz.prog 77 #[.pointer (some ⟨p, 0, none⟩), .int .i64 g] w fun e w' => e = .returned (.bool (decide (0 ≤ g ∧ g < d.r))) ∧ w' = w := by
  obtain ⟨c0, _⟩ := h.cells
  clear h
  generalize d.r = r at *
  by_cases h1 : 0 ≤ g
  · have k1 : decide (g ≥ 0) = true := decide_eq_true h1
    by_cases h2 : g < r
    · have k2 : decide (g < r) = true := decide_eq_true h2
      go_enter Tryz.func77, Tryz.ntmps77
      go_wp2_with fail
      go_ret
      exact ⟨ret_bool (decide_eq_true ⟨h1, h2⟩).symm, rfl⟩
    · have k2 : decide (g < r) = false := decide_eq_false h2
      go_enter Tryz.func77, Tryz.ntmps77
      go_wp2_with fail
      go_ret
      exact ⟨rfl, rfl⟩
  · have k1 : decide (g ≥ 0) = false := decide_eq_false h1
    go_enter Tryz.func77, Tryz.ntmps77
    go_wp2_with fail
    go_ret
    exact ⟨rfl, rfl⟩
theorem fill_splice (xs : List Nat) : splice (vals zeroC) 0 (vals xs) = vals (fillC xs) := by
  simp only [splice, List.take_zero, List.nil_append, Nat.zero_add, vals_len, fillC, ← vals_append, zeroC]
  congr 1
  simp only [vals, List.map_replicate, List.drop_replicate]
theorem fill_len {xs : List Nat} (h : xs.length ≤ 64) : (fillC xs).length = 64 := by simp [fillC]; omega
theorem zero_len : zeroC.length = 64 := by simp [zeroC]
set_option maxRecDepth 100000 in
set_option maxHeartbeats 1000000 in
theorem filled_ (a : Option Addr) (xs : List Nat) (n c : Nat) (w : World) (h : BytesIn w a xs) (hn : xs.length = n) (h64 : n ≤ 64) :
    Calls Tryz.prog 93 #[.slice a n c] w fun e w' => e = .returned (ctV (fillC xs)) ∧ Below w.heap.size w w' := by
  have hz := (zero_of_info infoC).1
  rw [zero_vals] at hz
  obtain ⟨o, ho⟩ : ∃ o : Obj, o = .cells (vals zeroC).toArray 137 := ⟨_, rfl⟩
  have HB : Hid (BytesIn ((w.alloc o).alloc o) a xs) := h.on (below_two w o o)
  have HG1 : Hid (((w.alloc o).alloc o).heap[w.heap.size + 1]? = some (.cells (vals zeroC).toArray 137 (0, 0))) := by rw [ho]; exact (heap_two w _ _).1
  have HG0 : Hid (((w.alloc o).alloc o).heap[w.heap.size]? = some (.cells (vals zeroC).toArray 137 (0, 0))) := by rw [ho]; exact (heap_two w _ _).2
  have Hb := Lib.hid (below_two w o o)
  have Hs : Hid (((w.alloc o).alloc o).heap.size = w.heap.size + 2) := by simp [Hid]
  have HN := Lib.hid hn
  clear h hn
  go_enter Tryz.func93, Tryz.ntmps93
  go_wp2_with (first
    | (rw [← ho]; refine wpList_copy_splice rfl _ _ 53 53 rfl 5 Tryz.underlying53 sizeB _ a 64 64 n c rfl rfl (w.heap.size + 1) 0 (vals zeroC) 137 HG1.out (vals xs) (by rw [vals_len, HN.out]; exact (Nat.min_eq_left h64).symm) (fun hp => ⟨rfl, ?_⟩) (by rw [vals_len, vals_len, HN.out, zero_len]; omega) (vals_one xs) (w.heap.size + 1) _ (Below.refl _ _) (Nat.le_refl _) ?_)
    | fail)
  · rw [vals_len] at hp
    obtain ⟨bb, oo, rfl, _⟩ := HB.out 0 hp
    exact ⟨_, rfl, HB.out.news⟩
  · intro w2 HG2 hB2
    rw [← ho] at hB2
    rw [fill_splice xs] at HG2
    have hg0 : CtAt w2 w.heap.size zeroC := (hB2.block _ (by omega)).trans HG0.out
    have hl := load_ct HG2.out (fill_len (by rw [HN.out]; exact h64))
    have hs := store_ct hg0 zero_len (fill_len (by rw [HN.out]; exact h64))
    have HE : Hid (CtAt (w2.setRow w.heap.size (vals (fillC xs)).toArray) w.heap.size (fillC xs) ∧ Below w.heap.size w (w2.setRow w.heap.size (vals (fillC xs)).toArray)) :=
      ⟨hg0.set _, below_setRow (Hb.out.trans (hB2.mono (Nat.le_succ _))) (Nat.le_refl _) _⟩
    clear hg0 HG2 hB2 HG1 HG0 HB Hb Hs hz
    go_wp2_with (first | (refine wpList_load_at rfl 137 _ rfl _ _ rfl hl ?_) | (refine wpList_store_at rfl 137 _ _ rfl _ _ rfl rfl hs ?_) | fail)
    refine bodyPost_ret (v := ctV (fillC xs)) ?_ rfl ⟨rfl, HE.out.2⟩
    rw [results_cell rfl]
    simp [asAddr, Result.andThen, Act.put, loadVar_ct HE.out.1 (fill_len (by rw [HN.out]; exact h64))]
end Go.Proofs.YtjnhcanohefjiaaGreatDoor

namespace Go.Proofs.YtjnhcanohefjiaaGreatDoor
open Go.RowKit Go.Sort Go.Maps

set_option maxHeartbeats 1000000 in
theorem has_ {w : World} {p a b : Nat} {d : Dev} {K : Nat} (h : DevIn w p a b d K) (k : Pl) :
    Calls Tryz.prog 73 #[.pointer (some ⟨p, 0, none⟩), plV k] w fun e w' => e = .returned (.bool (decide (hasD d k))) ∧ Below w.heap.size w w' := by
  obtain ⟨g, j⟩ := k
  unfold plV
  obtain ⟨W, hW⟩ : ∃ W, W = w.alloc (.cells #[.int .i64 g, .int .i64 j] 132) := ⟨_, rfl⟩
  have hB : Below w.heap.size w W := by rw [hW]; exact (Below.refl _ _).alloc (Nat.le_refl _) _
  have hD : DevIn W p a b d K := h.on hB
  have HR : Hid (∀ V, DevIn V p a b d K → Calls Tryz.prog 77 #[.pointer (some ⟨p, 0, none⟩), .int .i64 g] V fun e w' => e = .returned (.bool (decide (0 ≤ g ∧ g < d.r))) ∧ Below V.heap.size V w') := fun V hV => (hasRegion_ hV g).mono fun e w' ⟨h1, h2⟩ => ⟨h1, by rw [h2]; exact Below.refl _ _⟩
  have HL : Hid (∀ n os, DevIn (grow (redrawn W n) os) p a b d K) := fun n os => hD.on (below_regrown W n os)
  have hg : W.heap[w.heap.size]? = some (.cells #[.int .i64 g, .int .i64 j] 132 (0, 0)) := by rw [hW]; exact World.alloc_heap_new' _ _
  have c0 : W.cell? ⟨w.heap.size, 0, none⟩ = some (.int .i64 g) := cell_of hg rfl
  have c1 : W.cell? ⟨w.heap.size, 1, none⟩ = some (.int .i64 j) := cell_of hg rfl
  obtain ⟨_, d1, _⟩ := hD.cells
  have r0 := cell_regrown c0
  have r1 := cell_regrown c1
  have r2 := cell_regrown d1
  have HE : Hid (∀ x : Bool, x = decide (0 ≤ g ∧ g < d.r) → (x && (decide (j ≥ 0) && decide (j < d.s))) = decide (hasD d (g, j))) := by
    intro x hx
    rw [hx]
    unfold hasD
    by_cases h1 : 0 ≤ g <;> by_cases h2 : g < d.r <;> by_cases h3 : j ≥ 0 <;> by_cases h4 : j < d.s <;> simp [h1, h2, h3, h4]
  clear h hD hg d1 c0 c1
  have HB := Lib.hid hB
  clear hB
  generalize decide (hasD d (g, j)) = res at *
  generalize hx : decide (0 ≤ g ∧ g < d.r) = x at *
  replace HE := HE.out x rfl
  clear hx
  cases x
  · obtain rfl : false = res := by simpa using HE
    clear HE
    go_enter Tryz.func73, Tryz.ntmps73
    go_wp2_with fail
    rw [← hW]; clear hW
    refine wp_region_quiet_below (by kernel_rfl) (by kernel_rfl) ?_
    repeat (go_big_quiet_step (first | (go_at_call 77; exact Calls.regrown_of (HR.out _ (HL.out _ _)))))
    refine wpQuiet_nil ?_
    intro _ hw'
    obtain ⟨⟨dq, osq⟩, hw''⟩ := hw'
    subst hw''
    have hbq := below_step HB.out (below_regrown W dq osq)
    generalize grow (redrawn W dq) osq = W2 at *
    clear r0 r1 r2
    go_wp2
    go_ret
    exact ⟨rfl, hbq⟩
  · by_cases h3 : j ≥ 0
    · have k3 : decide (j ≥ 0) = true := decide_eq_true h3
      by_cases h4 : j < d.s
      · have k4 : decide (j < d.s) = true := decide_eq_true h4
        obtain rfl : true = res := by simpa [h3, h4] using HE
        clear HE
        generalize d.s = s at *
        go_enter Tryz.func73, Tryz.ntmps73
        go_wp2_with fail
        rw [← hW]; clear hW
        refine wp_region_quiet_below (by kernel_rfl) (by kernel_rfl) ?_
        repeat (go_big_quiet_step (first | (go_at_call 77; exact Calls.regrown_of (HR.out _ (HL.out _ _)))))
        refine wpQuiet_nil ?_
        intro _ hw'
        obtain ⟨⟨dq, osq⟩, hw''⟩ := hw'
        subst hw''
        have hbq := below_step HB.out (below_regrown W dq osq)
        generalize grow (redrawn W dq) osq = W2 at *
        clear r0 r1 r2
        go_wp2
        go_ret
        exact ⟨rfl, hbq⟩
      · have k4 : decide (j < d.s) = false := decide_eq_false h4
        obtain rfl : false = res := by simpa [h3, h4] using HE
        clear HE
        generalize d.s = s at *
        go_enter Tryz.func73, Tryz.ntmps73
        go_wp2_with fail
        rw [← hW]; clear hW
        refine wp_region_quiet_below (by kernel_rfl) (by kernel_rfl) ?_
        repeat (go_big_quiet_step (first | (go_at_call 77; exact Calls.regrown_of (HR.out _ (HL.out _ _)))))
        refine wpQuiet_nil ?_
        intro _ hw'
        obtain ⟨⟨dq, osq⟩, hw''⟩ := hw'
        subst hw''
        have hbq := below_step HB.out (below_regrown W dq osq)
        generalize grow (redrawn W dq) osq = W2 at *
        clear r0 r1 r2
        go_wp2
        go_ret
        exact ⟨rfl, hbq⟩
    · have k3 : decide (j ≥ 0) = false := decide_eq_false h3
      obtain rfl : false = res := by simpa [h3] using HE
      clear HE
      go_enter Tryz.func73, Tryz.ntmps73
      go_wp2_with fail
      rw [← hW]; clear hW
      refine wp_region_quiet_below (by kernel_rfl) (by kernel_rfl) ?_
      repeat (go_big_quiet_step (first | (go_at_call 77; exact Calls.regrown_of (HR.out _ (HL.out _ _)))))
      refine wpQuiet_nil ?_
      intro _ hw'
      obtain ⟨⟨dq, osq⟩, hw''⟩ := hw'
      subst hw''
      have hbq := below_step HB.out (below_regrown W dq osq)
      generalize grow (redrawn W dq) osq = W2 at *
      clear r0 r1 r2
      go_wp2
      go_ret
      exact ⟨rfl, hbq⟩
/-- What a device is when cells of its own block were set. -/
theorem DevIn.sets {w : World} {p a b : Nat} {d d' : Dev} {K : Nat} (h : DevIn w p a b d K) (w' : World) (hb : w'.heap[p]? = some (.cells (devC d' a b) 71 (0, 0))) (hf : ∀ k, k ≠ p → w'.heap[k]? = w.heap[k]?)
    (e1 : d'.r = d.r) (e2 : d'.s = d.s) (e3 : d'.safe = d.safe) (e4 : d'.pend = d.pend) (hl : 0 ≤ d'.left ∧ d'.left ≤ 9223372036854775807) : DevIn w' p a b d' K := by
  obtain ⟨n, D, h1, h2⟩ := h.safe
  obtain ⟨m, E, h3, h4⟩ := h.pend
  refine ⟨hb, h.ne, ⟨n, D, owns_keep h1 (hf a (Ne.symm h.pa)), by rw [e3, e4]; exact h2⟩, ⟨m, E, owns_keep h3 (hf b (Ne.symm h.pb)), by rw [e4]; exact h4⟩, ?_, by rw [e1, e2]; exact h.lim, hl, h.kl⟩
  exact ⟨by rw [e4]; exact h.ok.srt, by rw [e4]; exact h.ok.pend, by rw [e3]; exact h.ok.safe, fun x hx => by have := h.ok.wid x (e4 ▸ hx); unfold hasD at *; rw [e1, e2]; exact this⟩
/-- A write taken off those that go well. -/
def spentD (d : Dev) : Dev := { d with left := if d.armed = true ∧ d.left ≠ 0 then d.left - 1 else d.left, crashed := d.crashed || (d.armed && decide (d.left = 0)) }
set_option maxHeartbeats 1000000 in
theorem spend_ {w : World} {p a b : Nat} {d : Dev} {K : Nat} (h : DevIn w p a b d K) :
    Calls Tryz.prog 94 #[.pointer (some ⟨p, 0, none⟩)] w fun e w' => e = .returned (errV (if d.armed = true ∧ d.left = 0 then 60 else 0)) ∧ DevIn w' p a b (spentD d) K ∧ Fd p a b w w' := by
  obtain ⟨_, _, _, _, c4, c5, c6⟩ := h.cells
  have f5 : w.frozen? ⟨p, 5, none⟩ = false := frozen_of h.blk
  have f6 : w.frozen? ⟨p, 6, none⟩ = false := frozen_of h.blk
  have H := Lib.hid h
  obtain ⟨ev, hev⟩ : ∃ x, errV (if d.armed = true ∧ d.left = 0 then 60 else 0) = x := ⟨_, rfl⟩
  rw [hev]
  have HV := Lib.hid hev
  clear hev
  obtain ⟨l1, l2⟩ := h.lft
  clear h
  obtain ⟨d2, hd2⟩ : ∃ x, spentD d = x := ⟨_, rfl⟩
  rw [hd2]
  cases ha : d.armed
  · have HE : Hid (d2 = d) := by
      unfold Hid; rw [← hd2]; obtain ⟨r, s, sf, pd, ar, lf, cr⟩ := d
      simp only at ha; subst ha; simp [spentD]
    rw [ha] at c4 HV
    clear hd2
    go_enter Tryz.func94, Tryz.ntmps94
    go_wp2_with fail
    go_ret
    exact ⟨by rw [← HV.out]; simp [errV], by rw [HE.out]; exact H.out, Fd.refl _ _ _ _⟩
  · rw [ha] at c4 HV
    by_cases h0 : d.left = 0
    · have HE : Hid (d2 = { d with crashed := true }) := by unfold Hid; rw [← hd2]; unfold spentD; simp [ha, h0]
      have hb : (w.setCell ⟨p, 6, none⟩ (.bool true)).heap[p]? = some (.cells (devC { d with crashed := true } a b) 71 (0, 0)) := heap_set _ H.out.blk
      have HD : Hid (DevIn (w.setCell ⟨p, 6, none⟩ (.bool true)) p a b { d with crashed := true } K) := H.out.sets _ hb (fun k hk => heap_far _ hk) rfl rfl rfl rfl H.out.lft
      rw [h0] at c5
      rw [← HE.out] at HD
      clear hb H hd2 HE
      go_enter Tryz.func94, Tryz.ntmps94
      go_wp2_with fail
      go_ret
      exact ⟨by rw [← HV.out]; simp [errV, h0], HD.out, set_fd _ _ _ _ _ _⟩
    · have HE : Hid (d2 = { d with left := d.left - 1 }) := by unfold Hid; rw [← hd2]; unfold spentD; simp [ha, h0]
      have hb : (w.setCell ⟨p, 5, none⟩ (.int .i64 (d.left - 1))).heap[p]? = some (.cells (devC { d with left := d.left - 1 } a b) 71 (0, 0)) := heap_set _ H.out.blk
      have HD : Hid (DevIn (w.setCell ⟨p, 5, none⟩ (.int .i64 (d.left - 1))) p a b { d with left := d.left - 1 } K) := H.out.sets _ hb (fun k hk => heap_far _ hk) rfl rfl rfl rfl ⟨by show 0 ≤ d.left - 1; omega, by show d.left - 1 ≤ _; omega⟩
      rw [← HE.out] at HD
      have k0 : ((d.left : Int) == 0) = false := by simpa using h0
      clear hb H HE hd2
      have H0 := Lib.hid h0
      clear h0
      generalize d.left = lf at *
      go_enter Tryz.func94, Tryz.ntmps94
      go_wp2_with fail
      go_ret
      exact ⟨by rw [← HV.out]; simp [errV, H0.out], HD.out, set_fd _ _ _ _ _ _⟩
set_option maxHeartbeats 1000000 in
theorem arm_ {w : World} {p a b : Nat} {d : Dev} {K : Nat} (h : DevIn w p a b d K) (n : Int) (h0 : 0 ≤ n) (h1 : n ≤ 9223372036854775807) :
    Calls Tryz.prog 39 #[.pointer (some ⟨p, 0, none⟩), .int .i64 n] w fun e w' => e = .returned .nilIface ∧ DevIn w' p a b { d with armed := true, left := n } K ∧ Fd p a b w w' := by
  obtain ⟨_, _, _, _, c4, c5, c6⟩ := h.cells
  have f4 : w.frozen? ⟨p, 4, none⟩ = false := frozen_of h.blk
  have f5 : (w.setCell ⟨p, 4, none⟩ (.bool true)).frozen? ⟨p, 5, none⟩ = false := frozen_of (heap_set _ h.blk)
  have g5 : (w.setCell ⟨p, 4, none⟩ (.bool true)).cell? ⟨p, 5, none⟩ = some (.int .i64 d.left) := cell_of (heap_set _ h.blk) rfl
  have hb : ((w.setCell ⟨p, 4, none⟩ (.bool true)).setCell ⟨p, 5, none⟩ (.int .i64 n)).heap[p]? = some (.cells (devC { d with armed := true, left := n } a b) 71 (0, 0)) := heap_set _ (heap_set _ h.blk)
  have HD : Hid (DevIn ((w.setCell ⟨p, 4, none⟩ (.bool true)).setCell ⟨p, 5, none⟩ (.int .i64 n)) p a b { d with armed := true, left := n } K) := h.sets _ hb (fun k hk => by rw [heap_far _ hk, heap_far _ hk]) rfl rfl rfl rfl ⟨h0, h1⟩
  have k0 : decide (n < 0) = false := decide_eq_false (by omega)
  clear h hb
  go_enter Tryz.func39, Tryz.ntmps39
  go_wp2_with fail
  go_ret
  exact ⟨rfl, HD.out, (set_fd _ _ _ _ _ _).trans (set_fd _ _ _ _ _ _)⟩
theorem arm_bad (v : Option Addr) (n : Int) (w : World) (h : v = none ∨ n < 0) :
    Calls Tryz.prog 39 #[.pointer v, .int .i64 n] w fun e w' => e = .returned (errV 1) ∧ w' = w := by
  unfold errV
  cases v with
  | none =>
    go_enter Tryz.func39, Tryz.ntmps39
    go_wp2_with fail
    go_ret
    exact ⟨rfl, rfl⟩
  | some q =>
    have h0 : n < 0 := by simpa using h
    go_enter Tryz.func39, Tryz.ntmps39
    go_wp2_with fail
    go_ret
    exact ⟨rfl, rfl⟩
end Go.Proofs.YtjnhcanohefjiaaGreatDoor

namespace Go.Proofs.YtjnhcanohefjiaaGreatDoor
open Go.RowKit Go.Sort Go.Maps

section
variable {P : Program} {l : List Oper} {Q : Exit → Act → World → Prop} {md : Region.Mode} {S : World → Prop}
/-- One operation of a drawn region, taken first: it is found in the list. -/
theorem take_at (i : Nat) (v : Value) {oi : Oper} {post : List Oper} {fuel : Nat} {listed : Array Bool} {a : Act} {w : World} (hi : l.drop i = oi :: post)
    (hs : Region.noSelect l.toArray = true) (hf : Region.free md l.toArray listed i = true) (hr : (Region.ready md l.toArray listed).contains i = true)
    (hQ : ∀ c a w, Q (.panic c) (a.put oi.dst v) w → Q (.panic c) a w) (hy : YieldsIf P l.toArray S oi v a) (hS : S w)
    (h : wpAnyH P md l.toArray Q S fuel (listed.setIfInBounds i true) (a.put oi.dst v) w) : wpAnyH P md l.toArray Q S (fuel + 1) listed a w := by
  refine wpAnyH_take (i := i) ?_ hs hf hr hQ hy hS h
  have h1 : (l.drop i)[0]? = some oi := by rw [hi]; rfl
  rw [List.getElem?_drop, Nat.add_zero] at h1
  simpa using h1
theorem tk (i : Nat) (v : Value) {oi : Oper} {post : List Oper} {fuel : Nat} {listed listed' : Array Bool} {a a' : Act} {w : World} (hi : l.drop i = oi :: post := by exact rfl)
    (hs : Region.noSelect l.toArray = true := by kernel_rfl) (hf : Region.free md l.toArray listed i = true := by kernel_rfl) (hr : (Region.ready md l.toArray listed).contains i = true := by kernel_rfl)
    (hQ : ∀ c a w, Q (.panic c) (a.put oi.dst v) w → Q (.panic c) a w := by exact fun _ _ _ h => h) (hy : YieldsIf P l.toArray S oi v a := by (refine Or.inl ⟨by rfl, ?_⟩; intro V hSV; go_simp)) (hS : S w := by assumption)
    (hl : listed.setIfInBounds i true = listed' := by (first | (simp only [List.setIfInBounds_toArray, List.set_cons_zero, List.set_cons_succ]; done) | (simp only [List.setIfInBounds_toArray, List.set_cons_zero, List.set_cons_succ]; exact rfl) | exact rfl))
    (ha : a.put oi.dst v = a' := by (simp only [Act.put, List.setIfInBounds_toArray, List.set_cons_zero, List.set_cons_succ]; first | done | exact rfl))
    (h : wpAnyH P md l.toArray Q S fuel listed' a' w) : wpAnyH P md l.toArray Q S (fuel + 1) listed a w :=
  take_at i v hi hs hf hr hQ hy hS (by rw [hl, ha]; exact h)
theorem yields_load {ops : Array Oper} {o : Oper} {a : Act} (hw : Region.wanted o (yielded ops a.tmps) = true) (ty : TypeId) (x : Operand) (ho : o.op = .load ty x) (p v : Value) (hx : a.eval x = p)
    (hr : ∀ w, S w → (Instr.loadAt ty p).run P w = .ok v w) : YieldsIf P ops S o v a :=
  .inl ⟨hw, fun w hS => by
    unfold execOp
    simp only [ho, hx, hr w hS, Sem.run_bind, Sem.run_pure, Result.andThen_ok]⟩
theorem yields_lookup {ops : Array Oper} {o : Oper} {a : Act} (hw : Region.wanted o (yielded ops a.tmps) = true) (ty : TypeId) (m x : Operand) (c : Bool) (ho : o.op = .lookup ty m x c) (mv xv v : Value) (hm : a.eval m = mv) (hx : a.eval x = xv)
    (hr : ∀ w, S w → (Instr.lookup ty mv xv c).run P w = .ok v w) : YieldsIf P ops S o v a :=
  .inl ⟨hw, fun w hS => by
    unfold execOp
    simp only [ho, hm, hx, hr w hS, Sem.run_bind, Sem.run_pure, Result.andThen_ok]⟩
/-- The one operation that may come up. -/
theorem ready_at (i : Nat) {oi : Oper} {post : List Oper} {fuel : Nat} {listed : Array Bool} {a : Act} {w w' : World} {v : Value} (hi : l.drop i = oi :: post) (hr : Region.ready md l.toArray listed = [i]) (hw : Region.wanted oi (yielded l.toArray a.tmps) = true)
    (hrun : (execOp a.eval oi).run P w = .ok (.value v) w' ∨ ((execOp a.eval oi).run P w = .ok .skip w' ∧ v = undef)) (hS : S w')
    (h : wpAnyH P md l.toArray Q S fuel (listed.setIfInBounds i true) (a.put oi.dst v) w') : wpAnyH P md l.toArray Q S (fuel + 1) listed a w := by
  have h1 : l.toArray[i]? = some oi := by
    have h1 : (l.drop i)[0]? = some oi := by rw [hi]; rfl
    rw [List.getElem?_drop, Nat.add_zero] at h1
    simpa using h1
  refine wpAnyH_ready hr (by simp) (AllReadyH.cons h1 (fun K hK => ?_) AllReadyH.nil)
  rw [if_pos hw]
  unfold Oper.wp
  rcases hrun with e | ⟨e, rfl⟩
  · rw [e]
    exact hK.out _ _ hS (fun _ => h)
  · rw [e]
    exact hK.out _ _ hS (fun _ => h)
theorem ready_update (i : Nat) {oi : Oper} {post : List Oper} {fuel : Nat} {listed : Array Bool} {a : Act} {w w' : World} (hi : l.drop i = oi :: post) (hr : Region.ready md l.toArray listed = [i]) (hw : Region.wanted oi (yielded l.toArray a.tmps) = true)
    (t : TypeId) (m x v : Operand) (ho : oi.op = .mapUpdate t m x v) (mv xv vv : Value) (hm : a.eval m = mv) (hx : a.eval x = xv) (hv : a.eval v = vv) (hrun : (Instr.mapUpdate t mv xv vv).run P w = .ok () w') (hS : S w')
    (h : wpAnyH P md l.toArray Q S fuel (listed.setIfInBounds i true) (a.put oi.dst undef) w') : wpAnyH P md l.toArray Q S (fuel + 1) listed a w :=
  ready_at i hi hr hw (.inr ⟨by unfold execOp; simp only [ho, hm, hx, hv, hrun, Sem.run_bind, Sem.run_pure, Result.andThen_ok], rfl⟩) hS h
theorem ready_store (i : Nat) {oi : Oper} {post : List Oper} {fuel : Nat} {listed : Array Bool} {a : Act} {w w' : World} (hi : l.drop i = oi :: post) (hr : Region.ready md l.toArray listed = [i]) (hw : Region.wanted oi (yielded l.toArray a.tmps) = true)
    (t : TypeId) (x v : Operand) (ho : oi.op = .store t x v) (xv vv : Value) (hx : a.eval x = xv) (hv : a.eval v = vv) (hrun : (Instr.storeAt t xv vv).run P w = .ok () w') (hS : S w')
    (h : wpAnyH P md l.toArray Q S fuel (listed.setIfInBounds i true) (a.put oi.dst undef) w') : wpAnyH P md l.toArray Q S (fuel + 1) listed a w :=
  ready_at i hi hr hw (.inr ⟨by unfold execOp; simp only [ho, hx, hv, hrun, Sem.run_bind, Sem.run_pure, Result.andThen_ok], rfl⟩) hS h
theorem ready_delete (i : Nat) {oi : Oper} {post : List Oper} {fuel : Nat} {listed : Array Bool} {a : Act} {w w' : World} (hi : l.drop i = oi :: post) (hr : Region.ready md l.toArray listed = [i]) (hw : Region.wanted oi (yielded l.toArray a.tmps) = true)
    (t k : TypeId) (m x : Operand) (ho : oi.op = .call { callee := .builtin .delete, args := #[m, x], argTypes := #[t, k] }) (mv xv : Value) (hm : a.eval m = mv) (hx : a.eval x = xv) (hrun : (Builtin.delete_ #[t, k] oi.type #[mv, xv]).run P w = .ok (.tuple #[]) w') (hS : S w')
    (h : wpAnyH P md l.toArray Q S fuel (listed.setIfInBounds i true) (a.put oi.dst (.tuple #[])) w') : wpAnyH P md l.toArray Q S (fuel + 1) listed a w :=
  ready_at i hi hr hw (.inl (by simp [execOp, ho, resolve, invoke, builtin, hm, hx, hrun, Result.andThen])) hS h
end
theorem alloc_ct (w : World) : (Instr.alloc 137 true (.tuple #[])).run Tryz.prog w = .ok (.pointer (some ⟨w.heap.size, 0, none⟩)) (w.alloc (.cells (vals zeroC).toArray 137)) := by
  have hz := (zero_of_info infoC).1 w
  rw [zero_vals] at hz
  simp [Instr.alloc, hz, newVar, newObj, go_sem, Value.cells, Result.andThen]
  rfl
theorem wpList_alloc_ct {ops : Array Oper} {rest : List Oper} {op : Oper} {a : Act} {w : World} {Q : Exit → Act → World → Prop} (hgd : op.guard = none) (ho : op.op = .alloc 137)
    (h : wpList Tryz.prog ops Q rest (a.put op.dst (.pointer (some ⟨w.heap.size, 0, none⟩))) (w.alloc (.cells (vals zeroC).toArray 137))) : wpList Tryz.prog ops Q (op :: rest) a w :=
  wpList_plain hgd fun _ hK => by
    unfold Oper.wp execOp
    simp only [ho, alloc_ct w, Sem.run_bind, Sem.run_pure, Result.andThen_ok]
    exact hK _ _ h
theorem ready_alloc {l : List Oper} {Q : Exit → Act → World → Prop} {md : Region.Mode} {S : World → Prop} (i : Nat) {oi : Oper} {post : List Oper} {fuel : Nat} {listed : Array Bool} {a : Act} {w : World} (hi : l.drop i = oi :: post) (hr : Region.ready md l.toArray listed = [i]) (hw : Region.wanted oi (yielded l.toArray a.tmps) = true)
    (ho : oi.op = .alloc 137) (hS : S (w.alloc (.cells (vals zeroC).toArray 137)))
    (h : wpAnyH Tryz.prog md l.toArray Q S fuel (listed.setIfInBounds i true) (a.put oi.dst (.pointer (some ⟨w.heap.size, 0, none⟩))) (w.alloc (.cells (vals zeroC).toArray 137))) : wpAnyH Tryz.prog md l.toArray Q S (fuel + 1) listed a w :=
  ready_at i hi hr hw (.inl (by unfold execOp; simp only [ho, alloc_ct w, Sem.run_bind, Sem.run_pure, Result.andThen_ok])) hS h
theorem grown_drew (W : World) (row : Option Nat) : W.grownBy W.drew row := ⟨rfl, rfl, rfl, Nat.le_refl _, fun _ _ _ => rfl⟩
theorem grown_below {W w w' : World} {row : Option Nat} (h : W.grownBy w row) (hb : Below w.heap.size w w') : W.grownBy w' row :=
  ⟨hb.os.trans h.os, hb.tape.trans h.tape, hb.output.trans h.output, Nat.le_trans h.size hb.size, fun i hi hne => (hb.block i (Nat.lt_of_lt_of_le hi h.size)).trans (h.block i hi hne)⟩
theorem grown_turned {W w w' : World} {m : Nat} (h : W.grownBy w (some m)) (ht : w.mapTurned w' m) : W.grownBy w' (some m) := by
  have hg := ht.grown
  exact ⟨hg.os.trans h.os, hg.tape.trans h.tape, hg.output.trans h.output, Nat.le_trans h.size hg.size, fun i hi hne => (hg.block i (Nat.lt_of_lt_of_le hi h.size) hne).trans (h.block i hi hne)⟩
theorem grown_cell {W V : World} {m b o : Nat} {v : Value} (h : W.grownBy V (some m)) (hc : W.cell? ⟨b, o, none⟩ = some v) (hne : b ≠ m) : V.cell? ⟨b, o, none⟩ = some v := by
  have := h.block b (block_lt_of_cell hc) (fun e => hne (by cases e; rfl))
  rw [← hc]
  simp [World.cell?, this]
end Go.Proofs.YtjnhcanohefjiaaGreatDoor
