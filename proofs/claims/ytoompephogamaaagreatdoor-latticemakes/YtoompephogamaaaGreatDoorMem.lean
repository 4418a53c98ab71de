/- How labels, numbers and a lattice lie in memory, and the calls of a lattice that only look: Len, has, Dominates. -/
import Derived.Test.YtoompephogamaaaGreatDoorHgt
import Derived.Test.YtoompephogamaaaGreatDoorW1
import Derived.Maps.OwnSet
import Derived.DeepKeys4
namespace Go.Proofs.YtoompephogamaaaGreatDoor
open Go.RowKit Go.Sort

def labV (a : Lab) : Value := .agg #[.int .i64 a.1, .int .u32 a.2]
/-- The cells behind a slice of labels. -/
def LabsIn (w : World) (a : Option Addr) (ls : List Lab) : Prop :=
  ∀ i, i < ls.length → ∃ b o, a = some ⟨b, o, none⟩ ∧ w.cell? ⟨b, o + i * 2, none⟩ = some (.int .i64 (lab ls i).1) ∧ w.cell? ⟨b, o + i * 2 + 1, none⟩ = some (.int .u32 (lab ls i).2)
/-- The cells behind a slice of numbers. -/
def IntsIn (w : World) (a : Option Addr) (zs : List Nat) : Prop :=
  ∀ i, i < zs.length → ∃ b o, a = some ⟨b, o, none⟩ ∧ w.cell? ⟨b, o + i, none⟩ = some (.int .i64 (zs.getD i 0 : Nat))
theorem LabsIn.on {w w' : World} {a : Option Addr} {ls : List Lab} (h : LabsIn w a ls) (hb : Below w.heap.size w w') : LabsIn w' a ls := by
  intro i hi
  obtain ⟨b, o, e, h1, h2⟩ := h i hi
  exact ⟨b, o, e, (hb.cell (block_lt_of_cell h1)).trans h1, (hb.cell (block_lt_of_cell h2)).trans h2⟩
theorem IntsIn.on {w w' : World} {a : Option Addr} {zs : List Nat} (h : IntsIn w a zs) (hb : Below w.heap.size w w') : IntsIn w' a zs := by
  intro i hi
  obtain ⟨b, o, e, h1⟩ := h i hi
  exact ⟨b, o, e, (hb.cell (block_lt_of_cell h1)).trans h1⟩

theorem typesSize : Tryz.prog.types.size = 184 := by kernel_rfl
theorem laidOut : laidOutB Tryz.prog = true := by kernel_rfl
theorem law : Go.Maps.Keyed Tryz.prog 25 := Go.Maps.Keyed.of_law (deep_law_laid laidOut (m := 8) (by decide) (by rw [typesSize]; decide) (by kernel_rfl) (by kernel_rfl))
theorem wf_u32 {c : Nat} (h : c < 4294967296) : (Lit.int .u32 (c : Int)).wf = true := by
  simp only [Lit.wf, Bool.and_eq_true, decide_eq_true_eq]
  show (0 : Int) ≤ c ∧ (c : Int) ≤ 4294967295
  omega
theorem key_some (a : Lab) (h : okW a) : ∃ kl, keyOf Tryz.prog 25 (labV a) = some kl := by
  have e : Tryz.prog.keyType 25 = true := by kernel_rfl
  have c : Tryz.prog.cellsOf 25 = 2 := by kernel_rfl
  have c3 : Tryz.prog.cellsOf 3 = 1 := by kernel_rfl
  have cu : Tryz.prog.cellsOf 23 = 1 := by kernel_rfl
  obtain ⟨d, hd⟩ : ∃ d, Tryz.prog.types.size = d + 1 := ⟨184 - 1, by rw [typesSize]⟩
  obtain ⟨h1, h2, h3⟩ := h
  have w1 : (Lit.int .i64 a.1).wf = true := WalkArith.wf_i64 (by omega)
  have w2 : (Lit.int .u32 (a.2 : Int)).wf = true := wf_u32 h3
  have hl : Tryz.prog.keyLits (Tryz.prog.types.size + 1) 25 [.int .i64 a.1, .int .u32 a.2] = some [.int .i64 a.1, .int .u32 a.2] := by
    rw [hd]
    simp [Program.keyLits, Tryz.underlying25, Tryz.underlying3, Tryz.underlying23, c, c3, cu, w1, w2]
  refine ⟨.string (keyBytes [.int .i64 a.1, .int .u32 a.2]), ?_⟩
  unfold keyOf
  rw [Tryz.underlying25]
  simp only [e, labV, Value.formed, Tryz.underlying25, c, Value.cells, hl]
  rfl

/-- A map of labels to their places. -/
def MapIn (w : World) (m : Nat) (ls : List Lab) : Prop :=
  ∃ (n : Nat) (D : DataW Unit), w.ownsMap Tryz.prog 25 (plainElem Tryz.prog 3) m n D ∧ n ≤ ls.length ∧
    ∀ a kl, keyOf Tryz.prog 25 (labV a) = some kl → (a ∉ ls → Maps.has D kl = false) ∧ ∀ i, i < ls.length → lab ls i = a → Maps.has D kl = true ∧ D.atKey kl (.lit (.int .i64 0)) = .lit (.int .i64 i)
theorem MapIn.on {w w' : World} {m : Nat} {ls : List Lab} (h : MapIn w m ls) (hb : Below w.heap.size w w') : MapIn w' m ls := by
  obtain ⟨n, D, h1, h2, h3⟩ := h
  have hlt := h1.lt
  obtain ⟨es, clock, k1, k2, k3, k4⟩ := h1
  exact ⟨n, D, ⟨es, clock, (hb.block m hlt).trans k1, k2, k3, k4⟩, h2, h3⟩

/-- What a pointer to a lattice leads to; a nil one has no labels. -/
def LatIn (w : World) (v : Value) (ls : List Lab) : Prop :=
  (v = .pointer none ∧ ls = []) ∨ ∃ p a c m, v = .pointer (some ⟨p, 0, none⟩) ∧ w.cell? ⟨p, 0, none⟩ = some (.slice a ls.length c) ∧ LabsIn w a ls ∧ w.cell? ⟨p, 1, none⟩ = some (.map (some m)) ∧ MapIn w m ls
theorem LatIn.on {w w' : World} {v : Value} {ls : List Lab} (h : LatIn w v ls) (hb : Below w.heap.size w w') : LatIn w' v ls := by
  rcases h with h | ⟨p, a, c, m, h1, h2, h3, h4, h5⟩
  · exact .inl h
  · exact .inr ⟨p, a, c, m, h1, (hb.cell (block_lt_of_cell h2)).trans h2, h3.on hb, (hb.cell (block_lt_of_cell h4)).trans h4, h5.on hb⟩

set_option maxHeartbeats 400000 in
theorem len_ (v : Value) (ls : List Lab) (w : World) (h : LatIn w v ls) :
    Calls Tryz.prog 13 #[v] w fun e w' => e = .returned (.int .i64 ls.length) ∧ w' = w := by
  rcases h with ⟨rfl, rfl⟩ | ⟨p, a, c, m, rfl, h2, _, _, _⟩
  · go_enter Tryz.func13, Tryz.ntmps13
    go_wp2
    go_ret
    exact ⟨rfl, rfl⟩
  · go_enter Tryz.func13, Tryz.ntmps13
    go_wp2
    go_ret
    exact ⟨rfl, rfl⟩

theorem isAt_yes {ls : List Lab} {i : Int} (h : 0 ≤ i) (k : i < ls.length) : isAt ls i = true := by simp [isAt, h, k]
set_option maxHeartbeats 400000 in
theorem has_ (v : Value) (i : Int) (ls : List Lab) (w : World) (h : LatIn w v ls) :
    Calls Tryz.prog 24 #[v, .int .i64 i] w fun e w' => e = .returned (.bool (isAt ls i)) ∧ w' = w := by
  by_cases h0 : 0 ≤ i
  · have HA : Hid (isAt ls i = decide (i < ls.length)) := by unfold Hid isAt; rw [decide_eq_true h0, Bool.true_and]
    rw [HA.out]
    go_enter Tryz.func24, Tryz.ntmps24
    go_wp2_with fail
    refine (len_ v ls _ h).mono ?_
    rintro e w1 ⟨rfl, rfl⟩
    go_wp2_with fail
    go_ret
    exact ⟨rfl, rfl⟩
  · have HA : Hid (isAt ls i = false) := by unfold Hid isAt; rw [decide_eq_false h0, Bool.false_and]
    rw [HA.out]
    go_enter Tryz.func24, Tryz.ntmps24
    go_wp2_with fail
    go_ret
    exact ⟨rfl, rfl⟩
theorem has_b (v : Value) (i : Int) (ls : List Lab) (w : World) (h : LatIn w v ls) :
    Calls Tryz.prog 24 #[v, .int .i64 i] w fun e w' => e = .returned (.bool (isAt ls i)) ∧ Below w.heap.size w w' :=
  (has_ v i ls w h).mono fun _ _ ⟨he, hw⟩ => ⟨he, hw ▸ Below.refl _ _⟩
theorem isAt_cases {ls : List Lab} {i : Int} (h : isAt ls i = true) : ∃ n : Nat, i = n ∧ n < ls.length := by
  simp only [isAt, Bool.and_eq_true, decide_eq_true_eq] at h
  exact ⟨i.toNat, by omega, by omega⟩
theorem lDom_ (a b : Lab) (w : World) (ha : a.2 < 4294967296) (hb : b.2 < 4294967296) :
    Calls Tryz.prog 83 #[.agg #[.int .i64 a.1, .int .u32 a.2], .agg #[.int .i64 b.1, .int .u32 b.2]] w fun e w' => e = .returned (.bool (dm a b)) ∧ Below w.heap.size w w' :=
  dom15 a.1 b.1 a.2 b.2 w ha hb

end Go.Proofs.YtoompephogamaaaGreatDoor
