/- Plain facts on labels as a rank and a set of bits: which dominates which, joins and meets. No program is in it; Plain facts on the labels of a lattice as a list: what lies below each place, and all places in order. No program is in it; Plain facts on how long the longest way down from a place is: all places in order are those of height 0, then 1, and so on. No program is in it; The walks of label.Dominates, and of the document's Has, Dominates; How labels, numbers and a lattice lie in memory, and the calls of a lattice that only look: Len, has, Dominates. -/
import Derived.Laws.BitsAllLaws
import Derived.Test.YtalmanfjiblhcaaGreatChecked
import Derived.WalkKit
import Derived.WalkSpells
import Derived.WalkLawsBesides
import Derived.Lib.QuietBelow
import Derived.Deep.RegionWith
import Derived.Maps.OwnSet
import Derived.DeepKeys4
namespace Go.Proofs.YtalmanfjiblhcaaGreat.Lt
def inB (a b : Nat) : Bool := b &&& (4294967295 - a) == 0
def domB (r : Int) (c : Nat) (r' : Int) (c' : Nat) : Bool := decide (r' ≤ r) && inB c c'
theorem inB_iff {c c' : Nat} (hc : c < 4294967296) : inB c c' = true ↔ ∀ i, i < 32 → c'.testBit i = true → c.testBit i = true := by
 have e : 4294967295 - c = 2 ^ 32 - (c + 1) := by omega
 unfold inB
 rw [beq_iff_eq, e]
 constructor
 · intro h i hi hb
   have := congrArg (fun n => n.testBit i) h
   simp only [Nat.testBit_and, Nat.testBit_two_pow_sub_succ (show c < 2 ^ 32 from hc), Nat.zero_testBit, hb, hi] at this
   simpa using this
 · intro h
   apply Nat.eq_of_testBit_eq
   intro i
   simp only [Nat.testBit_and, Nat.testBit_two_pow_sub_succ (show c < 2 ^ 32 from hc), Nat.zero_testBit]
   by_cases hi : i < 32
   · by_cases hb : c'.testBit i = true
     · simp [h i hi hb]
     · simp [hb]
   · simp [hi]
theorem domB_iff {r r' : Int} {c c' : Nat} (hc : c < 4294967296) : domB r c r' c' = true ↔ r' ≤ r ∧ ∀ i, i < 32 → c'.testBit i = true → c.testBit i = true := by
 unfold domB
 rw [Bool.and_eq_true, inB_iff hc, decide_eq_true_eq]
theorem dom_refl {r : Int} {c : Nat} (hc : c < 4294967296) : domB r c r c = true := (domB_iff hc).2 ⟨Int.le_refl _, fun _ _ h => h⟩
theorem has_eq {c i : Nat} (hc : c < 4294967296) (hi : i < 32) : (bits BinOp.and IntKind.u32 ((c : Int) / 2 ^ min i 32) 1 == 1) = c.testBit i := by
 have e : ((c : Int) / 2 ^ min i 32) = ((c / 2 ^ i : Nat) : Int) := by
  rw [Nat.min_eq_left (by omega)]; push_cast; rfl
 have h1 : c / 2 ^ i < 4294967296 := Nat.lt_of_le_of_lt (Nat.div_le_self _ _) hc
 rw [e, show (1 : Int) = ((1 : Nat) : Int) from rfl, u32_and_nat _ _ h1 (by omega), Nat.and_one_is_mod, ← Nat.shiftRight_eq_div_pow]
 rw [Nat.testBit, Nat.and_comm, Nat.and_one_is_mod, Bool.eq_iff_iff, beq_iff_eq, bne_iff_ne]
 omega
theorem has_eq' {c i : Nat} (hc : c < 4294967296) (hi : i < 32) : (bits BinOp.and IntKind.u32 ((c : Int) / 2 ^ i) 1 == 1) = c.testBit i := by
 have := has_eq hc hi
 rw [Nat.min_eq_left (by omega)] at this
 exact this
theorem not_eq {c c' : Nat} (hc : c < 4294967296) (hc' : c' < 4294967296) : (bits BinOp.andNot IntKind.u32 (c' : Int) (c : Int) == 0) = inB c c' := by
 rw [u32_andNot_nat _ _ hc' hc]
 unfold inB
 rw [Bool.eq_iff_iff, beq_iff_eq, beq_iff_eq]
 omega
end Go.Proofs.YtalmanfjiblhcaaGreat.Lt
namespace Go.Proofs.YtalmanfjiblhcaaGreat.Lt
abbrev Lab := Int × Nat
theorem nodup_inj {α : Type} {l : List α} (h : l.Nodup) {i j : Nat} (hi : i < l.length) (hj : j < l.length) (e : l[i] = l[j]) : i = j := by
 have hp := List.pairwise_iff_getElem.1 h
 rcases Nat.lt_trichotomy i j with hlt | he | hlt
 · exact absurd e (hp i j hi hj hlt)
 · exact he
 · exact absurd e.symm (hp j i hj hi hlt)
def okW (a : Lab) : Prop := -9223372036854775808 ≤ a.1 ∧ a.1 ≤ 9223372036854775807 ∧ a.2 < 4294967296
def allW (ls : List Lab) : Prop := ∀ a ∈ ls, okW a
def dm (a b : Lab) : Bool := domB a.1 a.2 b.1 b.2
def lab (ls : List Lab) (i : Nat) : Lab := ls.getD i (0, 0)
def isAt (ls : List Lab) (i : Int) : Bool := decide (0 ≤ i) && decide (i < ls.length)
def domAt (ls : List Lab) (i j : Int) : Bool := (isAt ls i && isAt ls j) && dm (lab ls i.toNat) (lab ls j.toNat)
def upTo (p : Nat → Bool) (k : Nat) : List Nat := (List.range k).filter p
theorem upTo_yes {p : Nat → Bool} {k : Nat} (h : p k = true) : upTo p (k + 1) = upTo p k ++ [k] := by simp [upTo, List.range_succ, List.filter_append, h]
theorem upTo_no {p : Nat → Bool} {k : Nat} (h : p k = false) : upTo p (k + 1) = upTo p k := by simp [upTo, List.range_succ, List.filter_append, h]
theorem upTo_len (p : Nat → Bool) (k : Nat) : (upTo p k).length ≤ k := by
 have := List.length_filter_le p (List.range k)
 simpa [upTo] using this
theorem mem_upTo {p : Nat → Bool} {k i : Nat} : i ∈ upTo p k ↔ i < k ∧ p i = true := by simp [upTo]
theorem upTo_nodup (p : Nat → Bool) (k : Nat) : (upTo p k).Nodup := List.nodup_range.filter _
def belowL (ls : List Lab) (i : Int) : List Nat := upTo (fun j => domAt ls i j) ls.length
theorem isAt_nat {ls : List Lab} {i : Nat} : isAt ls (i : Int) = true ↔ i < ls.length := by
 simp only [isAt, Bool.and_eq_true, decide_eq_true_eq]; omega
theorem domAt_nat {ls : List Lab} {i j : Nat} : domAt ls i j = true ↔ (i < ls.length ∧ j < ls.length) ∧ dm (lab ls i) (lab ls j) = true := by
 simp only [domAt, Bool.and_eq_true, isAt_nat, Int.toNat_natCast]
theorem lab_ok {ls : List Lab} (h : allW ls) {i : Nat} (hi : i < ls.length) : okW (lab ls i) := by
 unfold lab; rw [List.getD_eq_getElem?_getD, List.getElem?_eq_getElem hi]; exact h _ (List.getElem_mem hi)
theorem lab_lt {ls : List Lab} (h : allW ls) (i : Nat) : (lab ls i).2 < 4294967296 := by
 by_cases hi : i < ls.length
 · exact (lab_ok h hi).2.2
 · unfold lab; rw [List.getD_eq_getElem?_getD, List.getElem?_eq_none (by omega)]; decide
theorem dm_refl {ls : List Lab} (h : allW ls) (i : Nat) : dm (lab ls i) (lab ls i) = true := dom_refl (lab_lt h i)
theorem mem_below {ls : List Lab} {i j : Nat} : j ∈ belowL ls i ↔ domAt ls i j = true := by
 unfold belowL; rw [mem_upTo]
 constructor
 · exact fun h => h.2
 · exact fun h => ⟨(domAt_nat.1 h).1.2, h⟩
end Go.Proofs.YtalmanfjiblhcaaGreat.Lt
namespace Go.Proofs.YtalmanfjiblhcaaGreat.Lt
end Go.Proofs.YtalmanfjiblhcaaGreat.Lt
namespace Go.Proofs.YtalmanfjiblhcaaGreat.Lt
open Go.RowKit Go.Sort
theorem ret_bool {a b : Bool} (h : a = b) : Ending.returned (.bool a) = .returned (.bool b) := by rw [h]
theorem ret_int {k : IntKind} {a b : Int} (h : a = b) : Ending.returned (.int k a) = .returned (.int k b) := by rw [h]
set_option maxHeartbeats 400000 in
theorem dom15 (r r' : Int) (c c' : Nat) (w : World) (hc : c < 4294967296) (hc' : c' < 4294967296) :
 Calls Tryz.prog 107 #[.agg #[.int .i64 r, .int .u32 c], .agg #[.int .i64 r', .int .u32 c']] w fun e w' => e = .returned (.bool (domB r c r' c')) ∧ Below w.heap.size w w' := by
 by_cases h : r' ≤ r
 · go_enter Tryz.func107, Tryz.ntmps107
   go_wp2
   go_ret
   refine ⟨ret_bool ?_, ((Below.refl _ _).alloc (Nat.le_refl _) _).alloc (by simp) _⟩
   rw [not_eq hc hc', domB, decide_eq_true h, Bool.true_and]
 · go_enter Tryz.func107, Tryz.ntmps107
   go_wp2
   go_ret
   refine ⟨ret_bool ?_, ((Below.refl _ _).alloc (Nat.le_refl _) _).alloc (by simp) _⟩
   rw [domB, decide_eq_false (by omega), Bool.false_and]
set_option maxHeartbeats 400000 in
theorem has23 (r : Int) (c i : Nat) (w : World) (hc : c < 4294967296) (hi : i < 32) :
 Calls Tryz.prog 59 #[.agg #[.int .i64 r, .int .u32 c], .int .i64 i] w fun e w' => e = .returned (.bool (c.testBit i)) ∧ Below w.heap.size w w' := by
 go_enter Tryz.func59, Tryz.ntmps59
 go_wp2
 go_ret
 exact ⟨ret_bool (has_eq' hc hi), (Below.refl _ _).alloc (Nat.le_refl _) _⟩
theorem box2 {w wr : World} {A B C D : Value} (hb : Below (w.heap.size + 2) ((w.alloc (.cells #[A, B] 70)).alloc (.cells #[C, D] 70)) wr) :
 wr.cell? ⟨w.heap.size, 0, none⟩ = some A ∧ wr.cell? ⟨w.heap.size, 1, none⟩ = some B ∧ wr.cell? ⟨w.heap.size + 1, 0, none⟩ = some C ∧ wr.cell? ⟨w.heap.size + 1, 1, none⟩ = some D ∧ w.heap.size + 2 ≤ wr.heap.size := by
 refine ⟨?_, ?_, ?_, ?_, by have := hb.size; simpa using this⟩
 all_goals (rw [hb.cell (by simp)]; simp [go_sem])
end Go.Proofs.YtalmanfjiblhcaaGreat.Lt
namespace Go.Proofs.YtalmanfjiblhcaaGreat.Lt
open Go.RowKit Go.Sort
def labV (a : Lab) : Value := .agg #[.int .i64 a.1, .int .u32 a.2]
def LabsIn (w : World) (a : Option Addr) (ls : List Lab) : Prop :=
 ∀ i, i < ls.length → ∃ b o, a = some ⟨b, o, none⟩ ∧ w.cell? ⟨b, o + i * 2, none⟩ = some (.int .i64 (lab ls i).1) ∧ w.cell? ⟨b, o + i * 2 + 1, none⟩ = some (.int .u32 (lab ls i).2)
def IntsIn (w : World) (a : Option Addr) (zs : List Nat) : Prop :=
 ∀ i, i < zs.length → ∃ b o, a = some ⟨b, o, none⟩ ∧ w.cell? ⟨b, o + i, none⟩ = some (.int .i64 (zs.getD i 0 : Nat))
theorem LabsIn.on {w w' : World} {a : Option Addr} {ls : List Lab} (h : LabsIn w a ls) (hb : Below w.heap.size w w') : LabsIn w' a ls := by
 intro i hi
 obtain ⟨b, o, e, h1, h2⟩ := h i hi
 exact ⟨b, o, e, (hb.cell (block_lt_of_cell h1)).trans h1, (hb.cell (block_lt_of_cell h2)).trans h2⟩
theorem IntsIn.on {w w' : World} {a : Option Addr} {zs : List Nat} (h : IntsIn w a zs) (hb : Below w.heap.size w w') : IntsIn w' a zs := by
 intro i hi
 obtain ⟨b, o, e, h1⟩ := h i hi
 exact ⟨b, o, e, (hb.cell (block_lt_of_cell h1)).trans h1⟩
theorem typesSize : Tryz.prog.types.size = 277 := by kernel_rfl
theorem laidOut : laidOutB Tryz.prog = true := by kernel_rfl
theorem law : Go.Maps.Keyed Tryz.prog 70 := Go.Maps.Keyed.of_law (deep_law_laid laidOut (m := 8) (by decide) (by rw [typesSize]; decide) (by kernel_rfl) (by kernel_rfl))
theorem wf_u32 {c : Nat} (h : c < 4294967296) : (Lit.int .u32 (c : Int)).wf = true := by
 simp only [Lit.wf, Bool.and_eq_true, decide_eq_true_eq]
 show (0 : Int) ≤ c ∧ (c : Int) ≤ 4294967295
 omega
theorem key_some (a : Lab) (h : okW a) : ∃ kl, keyOf Tryz.prog 70 (labV a) = some kl := by
 have e : Tryz.prog.keyType 70 = true := by kernel_rfl
 have c : Tryz.prog.cellsOf 70 = 2 := by kernel_rfl
 have c3 : Tryz.prog.cellsOf 3 = 1 := by kernel_rfl
 have cu : Tryz.prog.cellsOf 68 = 1 := by kernel_rfl
 obtain ⟨d, hd⟩ : ∃ d, Tryz.prog.types.size = d + 1 := ⟨277 - 1, by rw [typesSize]⟩
 obtain ⟨h1, h2, h3⟩ := h
 have w1 : (Lit.int .i64 a.1).wf = true := WalkArith.wf_i64 (by omega)
 have w2 : (Lit.int .u32 (a.2 : Int)).wf = true := wf_u32 h3
 have hl : Tryz.prog.keyLits (Tryz.prog.types.size + 1) 70 [.int .i64 a.1, .int .u32 a.2] = some [.int .i64 a.1, .int .u32 a.2] := by
  rw [hd]
  simp [Program.keyLits, Tryz.underlying70, Tryz.underlying3, Tryz.underlying68, c, c3, cu, w1, w2]
 refine ⟨.string (keyBytes [.int .i64 a.1, .int .u32 a.2]), ?_⟩
 unfold keyOf
 rw [Tryz.underlying70]
 simp only [e, labV, Value.formed, Tryz.underlying70, c, Value.cells, hl]
 rfl
def MapIn (w : World) (m : Nat) (ls : List Lab) : Prop :=
 ∃ (n : Nat) (D : DataW Unit), w.ownsMap Tryz.prog 70 (plainElem Tryz.prog 3) m n D ∧ n ≤ ls.length ∧
  ∀ a kl, keyOf Tryz.prog 70 (labV a) = some kl → (a ∉ ls → Maps.has D kl = false) ∧ ∀ i, i < ls.length → lab ls i = a → Maps.has D kl = true ∧ D.atKey kl (.lit (.int .i64 0)) = .lit (.int .i64 i)
theorem MapIn.on {w w' : World} {m : Nat} {ls : List Lab} (h : MapIn w m ls) (hb : Below w.heap.size w w') : MapIn w' m ls := by
 obtain ⟨n, D, h1, h2, h3⟩ := h
 have hlt := h1.lt
 obtain ⟨es, clock, k1, k2, k3, k4⟩ := h1
 exact ⟨n, D, ⟨es, clock, (hb.block m hlt).trans k1, k2, k3, k4⟩, h2, h3⟩
def LatIn (w : World) (v : Value) (ls : List Lab) : Prop :=
 (v = .pointer none ∧ ls = []) ∨ ∃ p a c m, v = .pointer (some ⟨p, 0, none⟩) ∧ w.cell? ⟨p, 0, none⟩ = some (.slice a ls.length c) ∧ LabsIn w a ls ∧ w.cell? ⟨p, 1, none⟩ = some (.map (some m)) ∧ MapIn w m ls
theorem LatIn.on {w w' : World} {v : Value} {ls : List Lab} (h : LatIn w v ls) (hb : Below w.heap.size w w') : LatIn w' v ls := by
 rcases h with h | ⟨p, a, c, m, h1, h2, h3, h4, h5⟩
 · exact .inl h
 · exact .inr ⟨p, a, c, m, h1, (hb.cell (block_lt_of_cell h2)).trans h2, h3.on hb, (hb.cell (block_lt_of_cell h4)).trans h4, h5.on hb⟩
set_option maxHeartbeats 400000 in
theorem len_ (v : Value) (ls : List Lab) (w : World) (h : LatIn w v ls) :
 Calls Tryz.prog 40 #[v] w fun e w' => e = .returned (.int .i64 ls.length) ∧ w' = w := by
 rcases h with ⟨rfl, rfl⟩ | ⟨p, a, c, m, rfl, h2, _, _, _⟩
 · go_enter Tryz.func40, Tryz.ntmps40
   go_wp2
   go_ret
   exact ⟨rfl, rfl⟩
 · go_enter Tryz.func40, Tryz.ntmps40
   go_wp2
   go_ret
   exact ⟨rfl, rfl⟩
theorem isAt_yes {ls : List Lab} {i : Int} (h : 0 ≤ i) (k : i < ls.length) : isAt ls i = true := by simp [isAt, h, k]
set_option maxHeartbeats 400000 in
theorem has_ (v : Value) (i : Int) (ls : List Lab) (w : World) (h : LatIn w v ls) :
 Calls Tryz.prog 106 #[v, .int .i64 i] w fun e w' => e = .returned (.bool (isAt ls i)) ∧ w' = w := by
 by_cases h0 : 0 ≤ i
 · have HA : Hid (isAt ls i = decide (i < ls.length)) := by unfold Hid isAt; rw [decide_eq_true h0, Bool.true_and]
   rw [HA.out]
   go_enter Tryz.func106, Tryz.ntmps106
   go_wp2_with fail
   refine (len_ v ls _ h).mono ?_
   rintro e w1 ⟨rfl, rfl⟩
   go_wp2_with fail
   go_ret
   exact ⟨rfl, rfl⟩
 · have HA : Hid (isAt ls i = false) := by unfold Hid isAt; rw [decide_eq_false h0, Bool.false_and]
   rw [HA.out]
   go_enter Tryz.func106, Tryz.ntmps106
   go_wp2_with fail
   go_ret
   exact ⟨rfl, rfl⟩
theorem has_b (v : Value) (i : Int) (ls : List Lab) (w : World) (h : LatIn w v ls) :
 Calls Tryz.prog 106 #[v, .int .i64 i] w fun e w' => e = .returned (.bool (isAt ls i)) ∧ Below w.heap.size w w' :=
 (has_ v i ls w h).mono fun _ _ ⟨he, hw⟩ => ⟨he, hw ▸ Below.refl _ _⟩
theorem isAt_cases {ls : List Lab} {i : Int} (h : isAt ls i = true) : ∃ n : Nat, i = n ∧ n < ls.length := by
 simp only [isAt, Bool.and_eq_true, decide_eq_true_eq] at h
 exact ⟨i.toNat, by omega, by omega⟩
theorem lDom_ (a b : Lab) (w : World) (ha : a.2 < 4294967296) (hb : b.2 < 4294967296) :
 Calls Tryz.prog 107 #[.agg #[.int .i64 a.1, .int .u32 a.2], .agg #[.int .i64 b.1, .int .u32 b.2]] w fun e w' => e = .returned (.bool (dm a b)) ∧ Below w.heap.size w w' :=
 dom15 a.1 b.1 a.2 b.2 w ha hb
end Go.Proofs.YtalmanfjiblhcaaGreat.Lt
