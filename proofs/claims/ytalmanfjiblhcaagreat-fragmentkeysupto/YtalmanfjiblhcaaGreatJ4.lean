/- Tables plainly: names, what is wrong with a table, its text, and what both readers guess of a text. No program is walked in it; How columns and tables lie in memory; a row of columns that the call has made; What the laws' rows share: a table among the arguments opened; how much there is of it; A table that is handed in is no greater than a machine can reach; The walks of table's Name and Reserved. -/
import Derived.Lib.Split
import Derived.Test.YtalmanfjiblhcaaGreatJ3
import Derived.Lib.Join
import Derived.Lib.Strings
import Derived.Test.YtalmanfjiblhcaaGreatChecked
import Derived.WalkKit
import Derived.WalkSpells
import Derived.WalkLawsBesides
import Derived.Lib.QuietBelow
import Derived.Lib.Hide
import Derived.Deep.RegionWith
import Derived.Deep.QuietTactic
import Derived.Deep.RegionHeld3
import Derived.LoopN
import Derived.WalkSmall
import Derived.IntWalk
import Derived.Laws.StructEq
import Derived.BigQuiet
import Derived.OwnWalk
import Derived.Deep.AppendLies
import Derived.Test.YtalmanfjiblhcaaGreatRows
import Derived.ProofKit
import Derived.OpenShut
import Derived.SizedLaws
import Derived.HandedShaped
import Derived.Carry
import Derived.ChangeSlices
import Derived.Shelf.Vars
import Derived.Deep.Slices
namespace Go.Proofs.YtalmanfjiblhcaaGreat.Tb
open Go.Lib
abbrev Col := Rw.Col
structure Tab where
 nm : ByteArray
 cs : List Col
def words : List (List UInt8) := [[97, 110, 100],
 [97, 115],
 [97, 115, 99],
 [98, 101, 103, 105, 110],
 [98, 111, 111, 108],
 [98, 121],
 [99, 111, 109, 109, 105, 116],
 [99, 111, 117, 110, 116],
 [100, 101, 108, 101, 116, 101],
 [100, 101, 115, 99],
 [101, 120, 112, 108, 97, 105, 110],
 [102, 97, 108, 115, 101],
 [102, 114, 111, 109],
 [103, 114, 111, 117, 112],
 [105, 110, 115, 101, 114, 116],
 [105, 110, 116],
 [105, 110, 116, 111],
 [105, 115],
 [107, 101, 121],
 [108, 97, 98, 101, 108],
 [108, 105, 109, 105, 116],
 [109, 97, 120],
 [109, 105, 110],
 [110, 111, 116],
 [110, 117, 108, 108],
 [111, 114],
 [111, 114, 100, 101, 114],
 [114, 101, 108, 101, 97, 115, 101],
 [114, 111, 108, 108, 98, 97, 99, 107],
 [115, 101, 108, 101, 99, 116],
 [115, 101, 116],
 [115, 117, 109],
 [116, 97, 98, 108, 101],
 [116, 101, 120, 116],
 [116, 114, 117, 101],
 [117, 112, 100, 97, 116, 101],
 [118, 97, 108, 117, 101, 115],
 [118, 105, 101, 119],
 [119, 104, 101, 114, 101]]
def resL (l : List UInt8) : Bool := words.any fun x => x == l
def smallB (c : UInt8) : Bool := decide (97 ≤ c.toNat) && decide (c.toNat ≤ 122)
def digitB (c : UInt8) : Bool := decide (48 ≤ c.toNat) && decide (c.toNat ≤ 57)
def okB (c : UInt8) : Bool := smallB c || digitB c || decide (c.toNat = 95)
def headOk : List UInt8 → Bool
 | [] => false
 | c :: _ => smallB c
def nameL (l : List UInt8) : Bool := headOk l && decide (l.length ≤ 32) && l.all okB && !resL l
def lst (s : ByteArray) : List UInt8 := s.data.toList
def colE (c : Col) (ahead : List Col) : Int :=
 if nameL (lst c.nm) = false then 30 else if ahead.any (fun d => lst d.nm == lst c.nm) = true then 9 else if ¬ (c.k = 1 ∨ c.k = 2 ∨ c.k = 3) then 7 else if (c.key && c.nul) = true then 33 else 0
def colsE (ahead : List Col) : List Col → Int
 | [] => 0
 | c :: r => if colE c ahead ≠ 0 then colE c ahead else colsE (ahead ++ [c]) r
def chkT (t : Tab) : Int :=
 if nameL (lst t.nm) = false then 30 else if t.cs.length = 0 then 1 else if 16 < t.cs.length then 2 else if colsE [] t.cs ≠ 0 then colsE [] t.cs else if t.cs.any (·.key) = true then 0 else 8
theorem colsE_at : ∀ (i : Nat) (ah cs : List Col), (∀ j (h : j < cs.length), j < i → colE cs[j] (ah ++ cs.take j) = 0) → colsE ah cs = colsE (ah ++ cs.take i) (cs.drop i)
 | 0, ah, cs, _ => by simp
 | i + 1, ah, [], _ => by simp [colsE]
 | i + 1, ah, c :: cs, h => by
   have h0 : colE c ah = 0 := by
    have := h 0 (by simp) (by omega)
    rw [List.take_zero, List.append_nil] at this
    exact this
   rw [colsE, h0, if_neg (by simp), colsE_at i (ah ++ [c]) cs (fun j hj hji => by
    have := h (j + 1) (by simp; omega) (by omega)
    simpa using this)]
   simp
theorem colsE_bad {cs : List Col} {i : Nat} (hi : i < cs.length) (h : ∀ j (h : j < cs.length), j < i → colE cs[j] (cs.take j) = 0) {E : Int} (hE : colE cs[i] (cs.take i) = E) (h0 : E ≠ 0) : colsE [] cs = E := by
 rw [colsE_at i [] cs (by simpa using h), List.drop_eq_getElem_cons hi, colsE]
 simp only [List.nil_append]
 rw [hE, if_pos h0]
theorem colsE_ok {cs : List Col} (h : ∀ j (h : j < cs.length), colE cs[j] (cs.take j) = 0) : colsE [] cs = 0 := by
 rw [colsE_at cs.length [] cs (fun j hj _ => by simpa using h j hj), List.drop_length]; rfl
theorem colsE_zero : ∀ (cs ah : List Col), colsE ah cs = 0 → ∀ j (h : j < cs.length), colE cs[j] (ah ++ cs.take j) = 0
 | [], _, _, j, h => by simp at h
 | c :: cs, ah, hz, j, h => by
   rw [colsE] at hz
   by_cases h0 : colE c ah = 0
   · rw [if_neg (by simp [h0])] at hz
     cases j with
     | zero => simpa using h0
     | succ j =>
       have := colsE_zero cs (ah ++ [c]) hz j (by simpa using h)
       simpa using this
   · rw [if_pos h0] at hz; exact absurd hz h0
structure RightC (c : Col) : Prop where
 nm : nameL (lst c.nm) = true
 k : c.k = 1 ∨ c.k = 2 ∨ c.k = 3
 kn : (c.key && c.nul) = false
theorem right_of_zero {c : Col} {ah : List Col} (h : colE c ah = 0) : RightC c := by
 unfold colE at h
 split at h
 · simp at h
 rename_i h1
 split at h
 · simp at h
 split at h
 · simp at h
 rename_i h2
 split at h
 · simp at h
 rename_i h3
 exact ⟨by simpa using h1, Classical.not_not.1 h2, by simpa using h3⟩
structure RightT (t : Tab) : Prop where
 nm : nameL (lst t.nm) = true
 pos : 0 < t.cs.length
 len : t.cs.length ≤ 16
 cols : ∀ c ∈ t.cs, RightC c
theorem right_of_chk {t : Tab} (h : chkT t = 0) : RightT t := by
 unfold chkT at h
 split at h
 · simp at h
 rename_i h1
 split at h
 · simp at h
 rename_i h2
 split at h
 · simp at h
 rename_i h3
 split at h
 · rename_i h4; exact absurd h h4
 rename_i h4
 refine ⟨by simpa using h1, by omega, by omega, fun c hc => ?_⟩
 obtain ⟨j, hj, rfl⟩ := List.getElem_of_mem hc
 exact right_of_zero (colsE_zero t.cs [] (by simpa using h4) j hj)
end Go.Proofs.YtalmanfjiblhcaaGreat.Tb
namespace Go.Proofs.YtalmanfjiblhcaaGreat.Tb
open Go.RowKit Go.Sort
theorem ret_bool {a b : Bool} (h : a = b) : Ending.returned (.bool a) = .returned (.bool b) := by rw [h]
theorem below_step {W w w' : World} (h : Below W.heap.size W w) (hb : Below w.heap.size w w') : Below W.heap.size W w' := h.trans (hb.mono h.size)
theorem below_stepN {N : Nat} {W w w' : World} (hN : N ≤ W.heap.size) (h : Below N W w) (hb : Below w.heap.size w w') : Below N W w' := h.trans (hb.mono (Nat.le_trans hN h.size))
theorem below_drew (W : World) : Below W.heap.size W W.drew := (Below.refl _ _).drew
theorem below_alloc1 (w : World) (o : Obj) : Below w.heap.size w (w.alloc o) := (Below.refl _ _).alloc (Nat.le_refl _) _
def errV (ty : TypeId) (e : Int) : Value := if e = 0 then .nilIface else .iface ty (.int .i64 e)
def inI (n : Int) : Prop := -9223372036854775808 ≤ n ∧ n ≤ 9223372036854775807
theorem toList_lst (s : ByteArray) : s.toList = lst s := Lib.toList_data s
theorem size_lst (s : ByteArray) : s.size = (lst s).length := Lib.size_eq s
theorem beq_lst (s t : ByteArray) : (s.toList == t.toList) = (lst s == lst t) := by rw [toList_lst, toList_lst]
theorem beq_ne {s t : ByteArray} (h : lst s ≠ lst t) : (s.toList == t.toList) = false := by rw [beq_lst]; simpa using h
theorem beq_swap (s t : List UInt8) : (s == t) = (t == s) := by
 by_cases h : s = t
 · subst h; rfl
 · rw [beq_eq_false_iff_ne.2 h, beq_eq_false_iff_ne.2 (Ne.symm h)]
def InC (w : World) (blk off : Nat) (c : Col) : Prop :=
 w.cell? ⟨blk, off, none⟩ = some (.string c.nm) ∧ w.cell? ⟨blk, off + 1, none⟩ = some (.int .i64 c.k) ∧ w.cell? ⟨blk, off + 2, none⟩ = some (.bool c.key) ∧ w.cell? ⟨blk, off + 3, none⟩ = some (.bool c.nul)
theorem InC.on {w w' : World} {blk off : Nat} {c : Col} (h : InC w blk off c) (hb : Below w.heap.size w w') : InC w' blk off c := by
 obtain ⟨h0, h1, h2, h3⟩ := h
 exact ⟨(hb.cell (block_lt_of_cell h0)).trans h0, (hb.cell (block_lt_of_cell h1)).trans h1, (hb.cell (block_lt_of_cell h2)).trans h2, (hb.cell (block_lt_of_cell h3)).trans h3⟩
theorem inC_new (w : World) (c : Col) (ty : TypeId) : InC (w.alloc (.cells #[.string c.nm, .int .i64 c.k, .bool c.key, .bool c.nul] ty)) w.heap.size 0 c := by
 refine ⟨?_, ?_, ?_, ?_⟩ <;> simp [go_sem]
def ColsIn (w : World) (a : Option Addr) (cs : List Col) : Prop :=
 ∀ i (h : i < cs.length), ∃ b o, a = some ⟨b, o, none⟩ ∧ InC w b (o + i * 4) cs[i]
theorem ColsIn.on {w w' : World} {a : Option Addr} {cs : List Col} (h : ColsIn w a cs) (hb : Below w.heap.size w w') : ColsIn w' a cs := by
 intro i hi
 obtain ⟨b, o, e, h1⟩ := h i hi
 exact ⟨b, o, e, h1.on hb⟩
theorem ColsIn.get {w : World} {a : Option Addr} {cs : List Col} (h : ColsIn w a cs) (i : Nat) (hi : i < cs.length) : ∃ b o, a = some ⟨b, o, none⟩ ∧ ∃ nm k y nl, cs[i] = ⟨nm, k, y, nl⟩ ∧ InC w b (o + i * 4) ⟨nm, k, y, nl⟩ := by
 obtain ⟨b, o, e, h1⟩ := h i hi
 exact ⟨b, o, e, _, _, _, _, rfl, h1⟩
theorem colsIn_nil (w : World) (a : Option Addr) : ColsIn w a [] := fun i hi => by simp at hi
theorem ColsIn.take {w : World} {a : Option Addr} {cs : List Col} (h : ColsIn w a cs) (n : Nat) : ColsIn w a (cs.take n) := by
 intro i hi
 rw [List.length_take] at hi
 obtain ⟨b, o, e, h1⟩ := h i (by omega)
 exact ⟨b, o, e, by rw [List.getElem_take]; exact h1⟩
def InT (w : World) (blk : Nat) (nm : ByteArray) (a : Option Addr) (n c : Nat) : Prop :=
 w.cell? ⟨blk, 0, none⟩ = some (.string nm) ∧ w.cell? ⟨blk, 1, none⟩ = some (.slice a n c)
theorem InT.on {w w' : World} {blk : Nat} {nm : ByteArray} {a : Option Addr} {n c : Nat} (h : InT w blk nm a n c) (hb : Below w.heap.size w w') : InT w' blk nm a n c := by
 obtain ⟨h0, h1⟩ := h
 exact ⟨(hb.cell (block_lt_of_cell h0)).trans h0, (hb.cell (block_lt_of_cell h1)).trans h1⟩
theorem inT_new (w : World) (nm : ByteArray) (a : Option Addr) (n c : Nat) (ty : TypeId) : InT (w.alloc (.cells #[.string nm, .slice a n c] ty)) w.heap.size nm a n c := by
 refine ⟨?_, ?_⟩ <;> simp [go_sem]
def colCells : List Col → List Value
 | [] => []
 | v :: r => .string v.nm :: .int .i64 v.k :: .bool v.key :: .bool v.nul :: colCells r
theorem colCells_len : ∀ vs, (colCells vs).length = vs.length * 4
 | [] => rfl
 | a :: r => by simp only [colCells, List.length_cons, colCells_len r]; omega
theorem colCells_append : ∀ a b, colCells a ++ colCells b = colCells (a ++ b)
 | [], _ => rfl
 | x :: r, b => by simp only [colCells, List.cons_append, colCells_append r b]
theorem colCells_at : ∀ (vs : List Col) (i : Nat) (h : i < vs.length), (colCells vs)[i * 4]? = some (.string vs[i].nm) ∧ (colCells vs)[i * 4 + 1]? = some (.int .i64 vs[i].k) ∧ (colCells vs)[i * 4 + 2]? = some (.bool vs[i].key) ∧ (colCells vs)[i * 4 + 3]? = some (.bool vs[i].nul)
 | [], i, h => by simp at h
 | a :: r, 0, _ => ⟨rfl, rfl, rfl, rfl⟩
 | a :: r, i + 1, h => by
   obtain ⟨h0, h1, h2, h3⟩ := colCells_at r i (by simpa using h)
   refine ⟨?_, ?_, ?_, ?_⟩
   · rw [show (i + 1) * 4 = i * 4 + 4 by omega]; simp only [colCells, List.getElem?_cons_succ, List.getElem_cons_succ]; exact h0
   · rw [show (i + 1) * 4 + 1 = i * 4 + 1 + 4 by omega]; simp only [colCells, List.getElem?_cons_succ, List.getElem_cons_succ]; exact h1
   · rw [show (i + 1) * 4 + 2 = i * 4 + 2 + 4 by omega]; simp only [colCells, List.getElem?_cons_succ, List.getElem_cons_succ]; exact h2
   · rw [show (i + 1) * 4 + 3 = i * 4 + 3 + 4 by omega]; simp only [colCells, List.getElem?_cons_succ, List.getElem_cons_succ]; exact h3
theorem colCells_one : ∀ (vs : List Col), ∀ u ∈ colCells vs, u.oneCell' = true
 | [], u, h => by simp [colCells] at h
 | a :: r, u, h => by
   simp only [colCells, List.mem_cons] at h
   rcases h with rfl | rfl | rfl | rfl | h
   · rfl
   · rfl
   · rfl
   · rfl
   · exact colCells_one r u h
theorem colNews {w : World} {b o : Nat} {vs : List Col} (h : ColsIn w (some ⟨b, o, none⟩) vs) : ∀ j u, (colCells vs)[j]? = some u → w.cell? ((⟨b, o, none⟩ : Addr).add j) = some u := by
 intro j u hj
 obtain ⟨hlt, _⟩ := List.getElem?_eq_some_iff.1 hj
 rw [colCells_len] at hlt
 have hi : j / 4 < vs.length := by omega
 obtain ⟨b', o', e', h0, h1, h2, h3⟩ := h (j / 4) hi
 simp only [Option.some.injEq, Addr.mk.injEq] at e'
 obtain ⟨rfl, rfl, _⟩ := e'
 obtain ⟨c0, c1, c2, c3⟩ := colCells_at vs (j / 4) hi
 rw [Addr.add_lit]
 rcases (by omega : j = j / 4 * 4 ∨ j = j / 4 * 4 + 1 ∨ j = j / 4 * 4 + 2 ∨ j = j / 4 * 4 + 3) with e | e | e | e
 · rw [e, c0] at hj; rw [e]; exact h0.trans hj
 · rw [e, c1] at hj; rw [e, ← Nat.add_assoc]; exact h1.trans hj
 · rw [e, c2] at hj; rw [e, ← Nat.add_assoc]; exact h2.trans hj
 · rw [e, c3] at hj; rw [e, ← Nat.add_assoc]; exact h3.trans hj
def OwnC (w : World) (base : Nat) (v : Value) (vs : List Col) : Prop := w.ownsRow base 112 4 v vs.length (colCells vs)
theorem OwnC.cols {w : World} {base : Nat} {v : Value} {vs : List Col} (h : OwnC w base v vs) : ∃ a c, v = .slice a vs.length c ∧ ColsIn w a vs ∧ (a = none → c = 0) := by
 rcases h.2 with ⟨rfl, h0⟩ | ⟨g, cap, cur, rfl, hb, hg, h1, h2, h3, h4⟩
 · refine ⟨none, 0, by rw [h0], fun i hi => by omega, fun _ => rfl⟩
 · refine ⟨_, cap, rfl, fun i hi => ⟨g, 0, rfl, ?_⟩, fun hh => by cases hh⟩
   obtain ⟨c0, c1, c2, c3⟩ := colCells_at vs i hi
   have k0 := World.ownsRow.cells h (g := g) rfl _ _ c0
   have k1 := World.ownsRow.cells h (g := g) rfl _ _ c1
   have k2 := World.ownsRow.cells h (g := g) rfl _ _ c2
   have k3 := World.ownsRow.cells h (g := g) rfl _ _ c3
   rw [Addr.add_lit] at k0 k1 k2 k3
   exact ⟨k0, by rw [Nat.add_assoc]; exact k1, by rw [Nat.add_assoc]; exact k2, by rw [Nat.add_assoc]; exact k3⟩
theorem OwnC.on {w w' : World} {base : Nat} {v : Value} {xs : List Col} (h : OwnC w base v xs) (hb : Below w.heap.size w w') : OwnC w' base v xs := by
 refine ⟨h.1, ?_⟩
 rcases h.2 with h1 | ⟨g, cap, cur, e, h1, h2, h3, h4, h5, h6⟩
 · exact .inl h1
 · have hlt : g < w.heap.size := by
    rcases Nat.lt_or_ge g w.heap.size with hl | hl
    · exact hl
    · rw [Array.getElem?_eq_none hl] at h2; cases h2
   exact .inr ⟨g, cap, cur, e, h1, (hb.block g hlt).trans h2, h3, h4, h5, h6⟩
theorem ownC_nil (w : World) (base : Nat) : OwnC w base (.slice none 0 0) [] := World.ownsRow_nil w base 112 4
theorem infoC : (Tryz.prog.info? 112).map (fun i => (i.zero, i.size, i.bytes)) = some (some (.agg #[.string ⟨#[]⟩, .int .i64 0, .bool false, .bool false]), 4, 32) := by kernel_rfl
theorem ownC_join {w : World} {base n m : Nat} {v : Value} {xs ys : List Col} (hn : xs.length = n) (hm : ys.length = m) (h : w.ownsRow base 112 4 v (n + m) (colCells xs ++ colCells ys)) : OwnC w base v (xs ++ ys) := by
 subst hn hm
 unfold OwnC
 rw [← colCells_append, List.length_append]
 exact h
end Go.Proofs.YtalmanfjiblhcaaGreat.Tb
namespace Go.Proofs.YtalmanfjiblhcaaGreat.Tb
open Go.ChangeShapes Go.WideShapes Go.ChangeAt Go.RowKit
theorem own : ownKnob Tryz.prog.godebug = none := by kernel_rfl
theorem laidOut : laidOutB Tryz.prog = true := by kernel_rfl
theorem i64_in {x : Int} (h : (Lit.int .i64 x).wf = true) : inI x := by
 simp only [Lit.wf, Bool.and_eq_true, decide_eq_true_eq] at h
 exact h
theorem plain_addr {W : World} {b o : Nat} {sp : Option Nat} {v : Value} (h : W.cell? ⟨b, o, sp⟩ = some v) : sp = none := by
 cases sp with
 | none => rfl
 | some x =>
   unfold World.cell? at h
   split at h
   · simp at h
   · cases h
theorem cellsC : Tryz.prog.cellsOf 112 = 4 := by kernel_rfl
def datC {H : Type} (c : Col) : DataW H := .agg [.lit (.string c.nm.data.toList), .lit (.int .i64 c.k), .lit (.bool c.key), .lit (.bool c.nul)]
set_option maxRecDepth 100000 in
theorem open_cols {H : Type} {enc : TypeId × Value → H} {W : World} {v : Value} {d : DataW H} {p : List MemPlace} {fuel : Nat}
 (h' : DataW.trod enc Tryz.prog W 0 (fun _ => true) true fuel 42 [v] = some (d, p)) :
 ∃ (a : Option Addr) (cs : List Col) (ct : Nat), v = .slice a cs.length ct ∧ ColsIn W a cs ∧ (a = none → ct = 0) ∧ cs.length ≤ ct ∧ (∀ c ∈ cs, inI c.k) ∧ ((d = .nil ∧ cs = []) ∨ ∃ spare, d = .slice (cs.map datC) spare) := by
 rcases Deep.open_slice Tryz.underlying42 h' with ⟨e1, e2⟩ | ⟨ad, len', cap', m, n, D, Pl, e1, _, hl, hcm, hm, e2, hc⟩
 · simp only [List.cons.injEq, and_true] at e1
   subst e1
   simp only [Prod.mk.injEq] at e2
   exact ⟨none, [], 0, rfl, colsIn_nil _ _, fun _ => rfl, Nat.le_refl _, fun c hc => (by simp at hc), .inl ⟨e2.1, rfl⟩⟩
 · simp only [List.cons.injEq, and_true] at e1
   subst e1
   simp only [if_true] at hm
   subst hm
   simp only [Prod.mk.injEq] at e2
   have each : ∀ i, i < m → ∃ x : Col, inI x.k ∧ D i = datC x ∧ ∃ b o, ad = ⟨b, o, none⟩ ∧ InC W b (o + i * 4) x := by
    intro i hi
    obtain ⟨cs', h1, h2⟩ := hc i hi
    rw [cellsC] at h1
    obtain ⟨_, hlen, hcell⟩ := World.cells?_some h1
    obtain ⟨xs, k, _, hxy, _, hxl, hf⟩ := DataW.trod_struct Tryz.underlying112 h2
    match xs, hxl, cs', hlen with
    | [y0, y1, y2, y3], _, [v0, v1, v2, v3], _ =>
      have c3 : Tryz.prog.cellsOf 3 = 1 := by kernel_rfl
      have c9 : Tryz.prog.cellsOf 9 = 1 := by kernel_rfl
      have c4 : Tryz.prog.cellsOf 4 = 1 := by kernel_rfl
      have g0 := hf 0 _ rfl
      have g1 := hf 1 _ rfl
      have g2 := hf 2 _ rfl
      have g3 := hf 3 _ rfl
      simp [c3, c4, c9] at g0 g1 g2 g3
      obtain ⟨x0, f0, rfl, w0⟩ := DataW.trod_string Tryz.underlying9 g0
      obtain ⟨x1, f1, rfl, w1⟩ := DataW.trod_int Tryz.underlying3 g1
      obtain ⟨x2, f2, rfl⟩ := DataW.trod_bool Tryz.underlying4 g2
      obtain ⟨x3, f3, rfl⟩ := DataW.trod_bool Tryz.underlying4 g3
      simp at f0 f1 f2 f3
      subst f0 f1 f2 f3
      obtain ⟨b, o, sp⟩ := ad
      have k0 := hcell 0 (by simp)
      have k1 := hcell 1 (by simp)
      have k2 := hcell 2 (by simp)
      have k3 := hcell 3 (by simp)
      have hsp : sp = none := by
       obtain ⟨cs0, z1, _⟩ := hc 0 (by omega)
       rw [cellsC] at z1
       obtain ⟨_, zl, zc⟩ := World.cells?_some z1
       have z0 := zc 0 (by omega)
       exact plain_addr (b := b) (o := o) (z0.trans (List.getElem?_eq_getElem (by omega)))
      subst hsp
      simp only [Addr.add_lit] at k0 k1 k2 k3
      simp only [Prod.mk.injEq] at hxy
      refine ⟨⟨x0, x1, x2, x3⟩, i64_in w1, by simpa [datC] using hxy.1, b, o, rfl, ?_, ?_, ?_, ?_⟩
      · simpa using k0
      · simpa [Nat.add_assoc] using k1
      · simpa [Nat.add_assoc] using k2
      · simpa [Nat.add_assoc] using k3
   obtain ⟨f, hf⟩ := @Deep.choose_lt Col ⟨⟨⟨#[]⟩, 0, false, false⟩⟩ m _ each
   have hlen : ((List.range len').map f).length = len' := by simp
   refine ⟨some ad, (List.range len').map f, m, by rw [hlen], ?_, fun hh => (by cases hh), by rw [hlen]; exact hl, ?_, .inr ⟨(List.range (m - len')).map (fun j => D (len' + j)), e2.1.trans ?_⟩⟩
   · intro i hi
     rw [hlen] at hi
     obtain ⟨_, _, b, o, rfl, hin⟩ := hf i (by omega)
     refine ⟨b, o, rfl, ?_⟩
     simp only [List.getElem_map, List.getElem_range]
     exact hin
   · intro c hc
     obtain ⟨i, hi, rfl⟩ := List.mem_map.1 hc
     exact (hf i (by have := List.mem_range.1 hi; omega)).1
   · rw [List.map_map, List.map_congr_left (g := datC ∘ f) (fun i hi => (hf i (by have := List.mem_range.1 hi; omega)).2.1)]
theorem cellsT : Tryz.prog.cellsOf 44 = 2 := by kernel_rfl
theorem array2 {α : Type} {a : Array α} (h : a.size = 2) : ∃ x y, a = #[x, y] := by
 obtain ⟨l⟩ := a
 match l, h with
 | [x, y], _ => exact ⟨x, y, rfl⟩
end Go.Proofs.YtalmanfjiblhcaaGreat.Tb
namespace Go.Proofs.YtalmanfjiblhcaaGreat.Tb
open Go.ChangeShapes Go.WideShapes Go.ChangeAt Go.RowKit
end Go.Proofs.YtalmanfjiblhcaaGreat.Tb
namespace Go.Proofs.YtalmanfjiblhcaaGreat.Tb
open Go.RowKit Go.Sort
set_option maxHeartbeats 1000000 in
theorem small_ (c : UInt8) (w : World) : Calls Tryz.prog 100 #[.int .u8 (c.toNat : Int)] w fun e w' => e = .returned (.bool (smallB c)) ∧ w' = w := by
 by_cases h1 : 97 ≤ c.toNat
 · have h2 : ((97 : Int) ≤ (c.toNat : Int)) := by omega
   have HE : Hid (smallB c = decide (c.toNat ≤ 122)) := by show _ = _; simp [smallB, h1]
   clear h1
   go_enter Tryz.func100, Tryz.ntmps100
   go_wp2_with fail
   go_ret
   refine ⟨?_, rfl⟩
   rw [HE.out]
   exact ret_bool (decide_eq_decide.2 (by omega))
 · have h2 : ¬ ((97 : Int) ≤ (c.toNat : Int)) := by omega
   have HE : Hid (smallB c = false) := by show _ = _; simp [smallB, h1]
   clear h1
   go_enter Tryz.func100, Tryz.ntmps100
   go_wp2_with fail
   go_ret
   exact ⟨by rw [HE.out]; rfl, rfl⟩
set_option maxHeartbeats 1000000 in
theorem digit_ (c : UInt8) (w : World) : Calls Tryz.prog 101 #[.int .u8 (c.toNat : Int)] w fun e w' => e = .returned (.bool (digitB c)) ∧ w' = w := by
 by_cases h1 : 48 ≤ c.toNat
 · have h2 : ((48 : Int) ≤ (c.toNat : Int)) := by omega
   have HE : Hid (digitB c = decide (c.toNat ≤ 57)) := by show _ = _; simp [digitB, h1]
   clear h1
   go_enter Tryz.func101, Tryz.ntmps101
   go_wp2_with fail
   go_ret
   refine ⟨?_, rfl⟩
   rw [HE.out]
   exact ret_bool (decide_eq_decide.2 (by omega))
 · have h2 : ¬ ((48 : Int) ≤ (c.toNat : Int)) := by omega
   have HE : Hid (digitB c = false) := by show _ = _; simp [digitB, h1]
   clear h1
   go_enter Tryz.func101, Tryz.ntmps101
   go_wp2_with fail
   go_ret
   exact ⟨by rw [HE.out]; rfl, rfl⟩
theorem res_of {l x : List UInt8} (h : (l == x) = true) (hx : x ∈ words) : resL l = true := List.any_eq_true.2 ⟨x, hx, by rw [beq_swap]; exact h⟩
theorem two_ways {b : Bool} (h : b = true) (h' : b = false) : False := by rw [h] at h'; cases h'
set_option maxHeartbeats 4000000 in
set_option maxRecDepth 100000 in
theorem reserved_ (s : ByteArray) (w : World) : Calls Tryz.prog 102 #[.string s] w fun e w' => e = .returned (.bool (resL (lst s))) ∧ w' = w := by
 rw [← toList_lst]
 go_enter Tryz.func102, Tryz.ntmps102
 go_wp2_with fail
 all_goals first
  | exact (two_ways (by assumption) (by assumption)).elim
  | (have h : resL s.toList = true := res_of (by assumption) (by decide)
     go_ret
     exact ⟨by rw [h]; rfl, rfl⟩)
  | (have h : resL s.toList = false := by
      simp only [resL, words, List.any_cons, List.any_nil, fun x => beq_swap x s.toList, *, Bool.or_false]
     go_ret
     exact ⟨by rw [h]; rfl, rfl⟩)
end Go.Proofs.YtalmanfjiblhcaaGreat.Tb
