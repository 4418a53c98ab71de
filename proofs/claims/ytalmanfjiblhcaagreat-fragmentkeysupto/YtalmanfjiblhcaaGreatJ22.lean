/- A store of all labels in memory: its levels, its map of fragments, its catalog; what it has of its own; size, has; find: a table by its name; slices.Min; asked. -/
import Derived.Test.YtalmanfjiblhcaaGreatJ10
import Derived.Test.YtalmanfjiblhcaaGreatJ19
import Derived.Test.YtalmanfjiblhcaaGreatJ20
import Derived.Test.YtalmanfjiblhcaaGreatJ21
import Derived.Maps.RangeWalk
import Derived.DeepKeys4
import Derived.Deep.RegionWith
import Derived.Deep.Cut
namespace Go.Proofs.YtalmanfjiblhcaaGreat
open Go.RowKit Go.Sort Go.Maps
def inI (n : Int) : Prop := -9223372036854775808 ≤ n ∧ n ≤ 9223372036854775807
def ptE (v : Value) : Option (DataW Unit × List MemPlace) :=
 match v with
 | .pointer none => some (.nil, [])
 | .pointer (some ⟨b, 0, none⟩) => some (.lit (.int .i64 b), [])
 | _ => none
def ptO : Option Nat → Value
 | none => .pointer none
 | some q => .pointer (some ⟨q, 0, none⟩)
theorem ptE_inv {v : Value} {b : Nat} {ps : List MemPlace} (h : ptE v = some (.lit (.int .i64 b), ps)) : v = .pointer (some ⟨b, 0, none⟩) := by
 unfold ptE at h
 split at h
 · simp at h
 · rename_i c
   simp only [Option.some.injEq, Prod.mk.injEq, DataW.lit.injEq, Lit.int.injEq, true_and] at h
   have : c = b := by omega
   subst this; rfl
 · cases h
theorem ptE_nil {v : Value} {ps : List MemPlace} (h : ptE v = some (.nil, ps)) : v = .pointer none := by
 unfold ptE at h
 split at h
 · rfl
 · simp at h
 · cases h
def spV (a b : Nat) : Value := .agg #[.int .i64 a, .int .i64 b]
def spK (a b : Nat) : Lit := .string (keyBytes [.int .i64 a, .int .i64 b])
def far (a b : Nat) : Prop := a < 4611686018427387904 ∧ b < 4611686018427387904
theorem typesSizeF : Tryz.prog.types.size = 277 := by kernel_rfl
theorem laidOutF : laidOutB Tryz.prog = true := by kernel_rfl
theorem keyedS : Keyed Tryz.prog 99 := Keyed.of_law (deep_law_laid laidOutF (m := 8) (by decide) (by rw [typesSizeF]; decide) (by kernel_rfl) (by kernel_rfl))
theorem keyOf_spot (v : Value) : keyOf Tryz.prog 99 v = if v.formed Tryz.prog 99 = true then (Tryz.prog.keyLits (Tryz.prog.types.size + 1) 99 v.cells.toList).map fun ls => .string (keyBytes ls) else none := by
 have e : Tryz.prog.keyType 99 = true := by kernel_rfl
 unfold keyOf
 rw [Tryz.underlying99]
 simp only [e, Bool.true_and]
theorem key_spot {a b : Nat} (h : far a b) : keyOf Tryz.prog 99 (spV a b) = some (spK a b) := by
 have c : Tryz.prog.cellsOf 99 = 2 := by kernel_rfl
 have c3 : Tryz.prog.cellsOf 3 = 1 := by kernel_rfl
 obtain ⟨d, hd⟩ : ∃ d, Tryz.prog.types.size = d + 1 := ⟨277 - 1, by rw [typesSizeF]⟩
 obtain ⟨h1, h2⟩ := h
 have w1 : (Lit.int .i64 (a : Int)).wf = true := WalkArith.wf_i64 (by omega)
 have w2 : (Lit.int .i64 (b : Int)).wf = true := WalkArith.wf_i64 (by omega)
 have hl : Tryz.prog.keyLits (Tryz.prog.types.size + 1) 99 [.int .i64 (a : Int), .int .i64 (b : Int)] = some [.int .i64 (a : Int), .int .i64 (b : Int)] := by
  rw [hd]
  simp [Program.keyLits, Tryz.underlying99, Tryz.underlying3, c, c3, w1, w2]
 rw [keyOf_spot, if_pos (by simp [spV, Value.formed, Tryz.underlying99, c])]
 simp only [spV, Value.cells, hl]
 rfl
theorem spV_inj {a b a' b' : Nat} (h : spV a b = spV a' b') : a = a' ∧ b = b' := by
 simp only [spV, Value.agg.injEq, Array.mk.injEq, List.cons.injEq, Value.int.injEq, true_and, and_true] at h
 omega
theorem spK_ne {a b a' b' : Nat} (h : far a b) (h' : far a' b') (hne : ¬ (a = a' ∧ b = b')) : spK a b ≠ spK a' b' := fun e =>
 hne (spV_inj (keyedS.inj (key_spot h) (e ▸ key_spot h')))
theorem spK_key {a b : Nat} (h : far a b) : WideAt.IsKeyLit (spK a b) := keyedS.key (key_spot h)
def PtIs (D : DataW Unit) (pt : Nat → Nat → Option Nat) : Prop := ∀ a b, far a b → has D (spK a b) = (pt a b).isSome ∧ ∀ q, pt a b = some q → ∀ zd, D.atKey (spK a b) zd = .lit (.int .i64 q)
def ptPut (pt : Nat → Nat → Option Nat) (a b q : Nat) : Nat → Nat → Option Nat := fun i j => if i = a ∧ j = b then some q else pt i j
theorem PtIs.nil : PtIs (.map []) (fun _ _ => none) := fun _ _ _ => ⟨rfl, fun _ h => by cases h⟩
theorem PtIs.put {D : DataW Unit} {pt : Nat → Nat → Option Nat} (h : PtIs D pt) (hD : IsMap D) {a b : Nat} (hk : far a b) (q : Nat) : PtIs (D.put (spK a b) (.lit (.int .i64 q))) (ptPut pt a b q) := by
 intro i j hj
 unfold ptPut
 by_cases e : i = a ∧ j = b
 · obtain ⟨rfl, rfl⟩ := e
   rw [if_pos ⟨rfl, rfl⟩]
   exact ⟨by rw [has_put_same hD (spK_key hk)]; rfl, fun q' hq zd => by cases hq; exact atKey_put_same hD (spK_key hk) _ _⟩
 · rw [if_neg e, has_put_other (spK_ne hj hk e)]
   exact ⟨(h i j hj).1, fun q' hq zd => by rw [atKey_put_other (spK_ne hj hk e)]; exact (h i j hj).2 q' hq zd⟩
theorem zeroPS (W : World) : (zeroValue 97).run Tryz.prog W = .ok (.pointer none) W := by kernel_rfl
theorem look_pt {W : World} {m nm : Nat} {D : DataW Unit} {pt : Nat → Nat → Option Nat} (hm : W.ownsMap Tryz.prog 99 ptE m nm D) (hp : PtIs D pt) {a b : Nat} (h : far a b) : (Instr.lookup 87 (.map (some m)) (spV a b) false).run Tryz.prog W = .ok (ptO (pt a b)) W := by
 obtain ⟨v, ps, h1, h2⟩ := hm.lookup (t := 87) keyedS Tryz.underlying87 (zeroPS W) (show ptE (.pointer none) = some (.nil, []) from rfl) (key_spot h)
 obtain ⟨p1, p2⟩ := hp a b h
 cases e : pt a b with
 | none =>
   rw [e] at p1
   rw [atKey_of_not_has p1] at h2
   rw [h1, ptE_nil h2]; rfl
 | some q =>
   rw [p2 q e] at h2
   rw [h1, ptE_inv h2]; rfl
theorem owns_keepF {w w' : World} {a n : Nat} {D : DataW Unit} (h : w.ownsMap Tryz.prog 99 ptE a n D) (e : w'.heap[a]? = w.heap[a]?) : w'.ownsMap Tryz.prog 99 ptE a n D := by
 obtain ⟨es, cl, h1, h2⟩ := h
 exact ⟨es, cl, e.trans h1, h2⟩
theorem cell_same {w w' : World} {b o : Nat} (h : w'.heap[b]? = w.heap[b]?) : w'.cell? ⟨b, o, none⟩ = w.cell? ⟨b, o, none⟩ := World.cell?_of_block (w := w) (a := ⟨b, o, none⟩) h
theorem ints_keep {w w' : World} {a : Option Addr} {zs : List Nat} (h : Lt.IntsIn w a zs) (hk : ∀ b o, a = some ⟨b, o, none⟩ → w'.heap[b]? = w.heap[b]?) : Lt.IntsIn w' a zs := fun i hi => by
 obtain ⟨b, o, e, h1⟩ := h i hi
 exact ⟨b, o, e, (cell_same (hk b o e)).trans h1⟩
structure CatB (w : World) (BC : Nat) (ca : Option Addr) (cc : Nat) (us : List Tb.TV) : Prop where
 len : us.length ≤ 32
 row : w.cell? ⟨BC, 0, none⟩ = some (.slice ca us.length cc)
 tabs : Tb.TabsIn w ca us
 cols : Tb.ColsAll w us
def CatK (BC : Nat) (ca : Option Addr) (us : List Tb.TV) (k : Nat) : Prop := k = BC ∨ (∃ o, ca = some ⟨k, o, none⟩ ∧ us ≠ []) ∨ ∃ u ∈ us, ∃ o, u.a = some ⟨k, o, none⟩ ∧ u.cs ≠ []
theorem catB_of {w : World} {N BC : Nat} {us : List Tb.TV} (h : Tb.CatIn w N BC us) : ∃ ca cc, CatB w BC ca cc us := by
 obtain ⟨a, c, h1, h2, _⟩ := h.row
 exact ⟨a, c, h.len, h1, h2, h.cols⟩
theorem CatB.cat {w : World} {BC : Nat} {ca : Option Addr} {cc : Nat} {us : List Tb.TV} (h : CatB w BC ca cc us) : Tb.CatIn w 0 BC us :=
 ⟨h.len, Nat.zero_le _, ⟨ca, cc, h.row, h.tabs, fun _ _ _ => Nat.zero_le _⟩, h.cols, fun _ _ _ _ _ => Nat.zero_le _⟩
theorem CatB.lt {w : World} {BC : Nat} {ca : Option Addr} {cc : Nat} {us : List Tb.TV} (h : CatB w BC ca cc us) : ∀ k, CatK BC ca us k → k < w.heap.size := by
 rintro k (rfl | ⟨o, e, hne⟩ | ⟨u, hu, o, e, hne⟩)
 · exact block_lt_of_cell h.row
 · obtain ⟨b, o', e', h1, _⟩ := h.tabs 0 (List.length_pos_iff.2 hne)
   rw [e] at e'
   simp only [Option.some.injEq, Addr.mk.injEq, and_true] at e'
   obtain ⟨rfl, rfl⟩ := e'
   exact block_lt_of_cell h1
 · obtain ⟨i, hi, rfl⟩ := List.getElem_of_mem hu
   exact Tb.cols_lt (h.cols i hi).1 hne k o e
theorem CatB.keep {w w' : World} {BC : Nat} {ca : Option Addr} {cc : Nat} {us : List Tb.TV} (h : CatB w BC ca cc us) (hk : ∀ k, CatK BC ca us k → w'.heap[k]? = w.heap[k]?) : CatB w' BC ca cc us := by
 refine ⟨h.len, (cell_same (hk _ (.inl rfl))).trans h.row, fun i hi => ?_, fun i hi => ⟨Tb.cols_other (h.cols i hi).1 fun b o e hne => hk b (.inr (.inr ⟨_, List.getElem_mem hi, o, e, hne⟩)), (h.cols i hi).2⟩⟩
 obtain ⟨b, o, e, h1, h2⟩ := h.tabs i hi
 have hb := hk b (.inr (.inl ⟨o, e, fun hn => by rw [hn] at hi; simp at hi⟩))
 exact ⟨b, o, e, (cell_same hb).trans h1, (cell_same hb).trans h2⟩
structure LvV where
 a : Option Addr
 n : Nat
 c : Nat
 cm : Nat
 rw : Int
def lvC (l : LvV) : List Value := [.slice l.a l.n l.c, .int .i64 l.cm, .int .i64 l.rw]
def lvCs (L : List LvV) : List Value := L.flatMap lvC
theorem lvCs_len (L : List LvV) : (lvCs L).length = L.length * 3 := by
 induction L with
 | nil => rfl
 | cons x L ih => simp only [lvCs, List.flatMap_cons, List.length_append, List.length_cons] at *; simp only [lvC, List.length_cons, List.length_nil]; omega
theorem lvCs_at : ∀ (L : List LvV) (i : Nat) (h : i < L.length), (lvCs L)[i * 3]? = some (.slice L[i].a L[i].n L[i].c) ∧ (lvCs L)[i * 3 + 1]? = some (.int .i64 L[i].cm) ∧ (lvCs L)[i * 3 + 2]? = some (.int .i64 L[i].rw)
 | x :: L, 0, _ => ⟨rfl, rfl, rfl⟩
 | x :: L, i + 1, h => by
   have ih := lvCs_at L i (by simpa using h)
   have e : lvCs (x :: L) = .slice x.a x.n x.c :: .int .i64 x.cm :: .int .i64 x.rw :: lvCs L := rfl
   rw [e, show (i + 1) * 3 = i * 3 + 1 + 1 + 1 by omega]
   simp only [List.getElem?_cons_succ, List.getElem_cons_succ]
   exact ih
theorem lvCs_append (A B : List LvV) : lvCs (A ++ B) = lvCs A ++ lvCs B := by simp [lvCs]
structure LevB (w : World) (gl cl : Nat) (L : List LvV) : Prop where
 blk : ∃ cur, w.heap[gl]? = some (.cells cur 85 (0, 0)) ∧ ∀ j, j < L.length * 3 → cur[j]? = (lvCs L)[j]?
 le : L.length ≤ cl
theorem LevB.lt {w : World} {gl cl : Nat} {L : List LvV} (h : LevB w gl cl L) : gl < w.heap.size := by obtain ⟨cur, h1, _⟩ := h.blk; exact blk_lt h1
theorem LevB.keep {w w' : World} {gl cl : Nat} {L : List LvV} (h : LevB w gl cl L) (e : w'.heap[gl]? = w.heap[gl]?) : LevB w' gl cl L := by
 obtain ⟨cur, h1, h2⟩ := h.blk
 exact ⟨⟨cur, e.trans h1, h2⟩, h.le⟩
theorem LevB.cells {w : World} {gl cl : Nat} {L : List LvV} (h : LevB w gl cl L) {i : Nat} (hi : i < L.length) : w.cell? ⟨gl, i * 3, none⟩ = some (.slice L[i].a L[i].n L[i].c) ∧ w.cell? ⟨gl, i * 3 + 1, none⟩ = some (.int .i64 L[i].cm) ∧ w.cell? ⟨gl, i * 3 + 2, none⟩ = some (.int .i64 L[i].rw) := by
 obtain ⟨cur, h1, h2⟩ := h.blk
 obtain ⟨a, b, c⟩ := lvCs_at L i hi
 exact ⟨cell_of h1 ((h2 _ (by omega)).trans a), cell_of h1 ((h2 _ (by omega)).trans b), cell_of h1 ((h2 _ (by omega)).trans c)⟩
theorem LevB.free {w : World} {gl cl : Nat} {L : List LvV} (h : LevB w gl cl L) (o : Nat) : w.frozen? ⟨gl, o, none⟩ = false := by
 obtain ⟨cur, h1, _⟩ := h.blk
 exact frozen_of h1
theorem lvCs_set : ∀ (L : List LvV) (i : Nat) (x : LvV) (j : Nat), i < L.length → (lvCs (L.set i x))[j]? = if i * 3 ≤ j ∧ j < i * 3 + 3 then (lvC x)[j - i * 3]? else (lvCs L)[j]?
 | [], i, x, j, h => by simp at h
 | y :: L, 0, x, j, _ => by
   have e : ∀ z : LvV, lvCs (z :: L) = .slice z.a z.n z.c :: .int .i64 z.cm :: .int .i64 z.rw :: lvCs L := fun _ => rfl
   rw [List.set_cons_zero, e x, e y]
   match j with
   | 0 => rfl
   | 1 => rfl
   | 2 => rfl
   | j + 3 => rw [if_neg (by omega)]; rfl
 | y :: L, i + 1, x, j, h => by
   have ih := fun j => lvCs_set L i x j (by simpa using h)
   have e : ∀ (z : LvV) (M : List LvV), lvCs (z :: M) = .slice z.a z.n z.c :: .int .i64 z.cm :: .int .i64 z.rw :: lvCs M := fun _ _ => rfl
   rw [List.set_cons_succ, e y, e y]
   match j with
   | 0 => rw [if_neg (by omega)]; rfl
   | 1 => rw [if_neg (by omega)]; rfl
   | 2 => rw [if_neg (by omega)]; rfl
   | j + 3 =>
     simp only [List.getElem?_cons_succ, ih j]
     by_cases q : i * 3 ≤ j ∧ j < i * 3 + 3
     · rw [if_pos q, if_pos (by omega), show j + 3 - (i + 1) * 3 = j - i * 3 by omega]
     · rw [if_neg q, if_neg (by omega)]
theorem LevB.set {w : World} {gl cl : Nat} {L : List LvV} (h : LevB w gl cl L) {i o : Nat} (hi : i < L.length) (x : LvV) (v : Value) (ho : o < 3) (hx : ∀ k, k < 3 → (lvC x)[k]? = if k = o then some v else (lvC L[i])[k]?) : LevB (w.setCell ⟨gl, i * 3 + o, none⟩ v) gl cl (L.set i x) := by
 obtain ⟨cur, h1, h2⟩ := h.blk
 refine ⟨⟨_, heap_set v h1, fun j hj => ?_⟩, by rw [List.length_set]; exact h.le⟩
 rw [List.length_set] at hj
 rw [lvCs_set L i x j hi]
 have hsz : i * 3 + o < cur.size := by
  have := h2 (i * 3 + o) (by omega)
  have hlt : i * 3 + o < (lvCs L).length := by rw [lvCs_len]; omega
  rw [List.getElem?_eq_getElem hlt] at this
  exact (Array.getElem?_eq_some_iff.1 this).1
 by_cases q : i * 3 ≤ j ∧ j < i * 3 + 3
 · rw [if_pos q, hx _ (by omega)]
   by_cases e : j = i * 3 + o
   · subst e
     rw [if_pos (by omega), Array.getElem?_setIfInBounds]
     simp [hsz]
   · rw [if_neg (by omega), Array.getElem?_setIfInBounds, if_neg (by omega), h2 j hj]
     have : ∀ (L : List LvV) (i : Nat) (hi : i < L.length) (j : Nat), i * 3 ≤ j → j < i * 3 + 3 → (lvCs L)[j]? = (lvC L[i])[j - i * 3]? := fun L i hi j h1 h2 => by
      obtain ⟨a, b, c⟩ := lvCs_at L i hi
      obtain ⟨d, rfl⟩ : ∃ d, j = i * 3 + d := ⟨j - i * 3, by omega⟩
      rw [Nat.add_sub_cancel_left]
      match d, h2 with
      | 0, _ => exact a
      | 1, _ => exact b
      | 2, _ => exact c
      | d + 3, h2 => omega
     exact this L i hi j q.1 q.2
 · rw [if_neg q, Array.getElem?_setIfInBounds, if_neg (by omega), h2 j hj]
structure FgD (w : World) (S : Nat → Prop) (K ps : Nat) (bl : Nat → List Nat) (us : List Tb.TV) (x : FgM) (gl cl m BC : Nat) (ca : Option Addr) (cc : Nat) (L : List LvV) (D : DataW Unit) (pt : Nat → Nat → Option Nat) (Ft : Nat → Nat → Nat → Prop) : Prop where
 blk : w.heap[ps]? = some (.cells #[.slice (some ⟨gl, 0, none⟩) L.length cl, .pointer (some ⟨BC, 0, none⟩), .map (some m)] 89 (0, 0))
 lev : LevB w gl cl L
 lvl : ∀ i (h : i < L.length), L[i].cm = x.cm i ∧ L[i].rw = x.rw i ∧ L[i].n = (bl i).length ∧ Lt.IntsIn w L[i].a (bl i)
 num : 0 < L.length ∧ L.length ≤ 16
 bin : ∀ i, i < L.length → ∀ b ∈ bl i, b < L.length
 cat : CatB w BC ca cc us
 map : w.ownsMap Tryz.prog 99 ptE m K D
 pts : PtIs D pt
 fam : ∀ a b, (pt a b = none → x.fr a b = [] ∧ ∀ k, ¬ Ft a b k) ∧ ∀ q, pt a b = some q → VnF w (Ft a b) q (x.fr a b)
 own : S ps ∧ S gl ∧ S m ∧ ps ≠ gl
 fts : ∀ a b k, Ft a b k → S k ∧ k < w.heap.size ∧ k ≠ ps ∧ k ≠ gl ∧ k ≠ m
 apart : ∀ a b a' b' k, Ft a b k → Ft a' b' k → a = a' ∧ b = b'
 conC : ∀ k, CatK BC ca us k → S k ∧ k ≠ gl ∧ k ≠ m ∧ k ≠ ps ∧ ∀ a b, ¬ Ft a b k
 conL : ∀ i (h : i < L.length), ∀ b o, L[i].a = some ⟨b, o, none⟩ → S b ∧ b < w.heap.size ∧ b ≠ gl ∧ b ≠ m ∧ b ≠ ps ∧ ∀ u v, ¬ Ft u v b
def FgAt (w : World) (S : Nat → Prop) (K n ps : Nat) (bl : Nat → List Nat) (us : List Tb.TV) (x : FgM) : Prop :=
 ∃ gl cl m BC ca cc L D pt Ft, FgD w S K ps bl us x gl cl m BC ca cc L D pt Ft ∧ L.length = n
def ByK (w w' : World) : Prop := ∀ (g : Nat) (cur : Array Value), w.heap[g]? = some (.cells cur 5 (0, 0)) → w'.heap[g]? = w.heap[g]?
theorem ByK.below {w w' : World} (h : Below w.heap.size w w') : ByK w w' := fun g _ hg => h.block g (blk_lt hg)
theorem ByK.trans {a b c : World} (h : ByK a b) (k : ByK b c) : ByK a c := fun g cur hg => (k g cur ((h g cur hg).trans hg)).trans (h g cur hg)
theorem FgD.keep {w w' : World} {S : Nat → Prop} {K ps : Nat} {bl : Nat → List Nat} {us : List Tb.TV} {x : FgM} {gl cl m BC : Nat} {ca : Option Addr} {cc : Nat} {L : List LvV} {D : DataW Unit} {pt : Nat → Nat → Option Nat} {Ft : Nat → Nat → Nat → Prop}
 (h : FgD w S K ps bl us x gl cl m BC ca cc L D pt Ft) {B : Nat → Prop} (hf : Frame B w w') (hB : ∀ k, k < w.heap.size → S k → ¬ B k) (hy : ByK w w') : FgD w' S K ps bl us x gl cl m BC ca cc L D pt Ft := by
 have hs : ∀ k, k < w.heap.size → S k → w'.heap[k]? = w.heap[k]? := fun k hk hS => hf.block k hk (hB k hk hS)
 refine ⟨(hs ps (blk_lt h.blk) h.own.1).trans h.blk, h.lev.keep (hs gl h.lev.lt h.own.2.1), fun i hi => ?_, h.num, h.bin, h.cat.keep fun k hk => hs k (h.cat.lt k hk) (h.conC k hk).1, owns_keepF h.map (hs m h.map.lt h.own.2.2.1), h.pts, fun a b => ⟨(h.fam a b).1, fun q hq => ((h.fam a b).2 q hq).keep hf (fun k hk hF => hB k hk (h.fts a b k hF).1) hy⟩, h.own, fun a b k hk => ?_, h.apart, h.conC, fun i hi b o e => ?_⟩
 · obtain ⟨h1, h2, h3, h4⟩ := h.lvl i hi
   exact ⟨h1, h2, h3, ints_keep h4 fun b o e => hs b (h.conL i hi b o e).2.1 (h.conL i hi b o e).1⟩
 · obtain ⟨h1, h2, h3⟩ := h.fts a b k hk
   exact ⟨h1, Nat.lt_of_lt_of_le h2 hf.size, h3⟩
 · obtain ⟨h1, h2, h3⟩ := h.conL i hi b o e
   exact ⟨h1, Nat.lt_of_lt_of_le h2 hf.size, h3⟩
theorem FgAt.keep {w w' : World} {S : Nat → Prop} {K n ps : Nat} {bl : Nat → List Nat} {us : List Tb.TV} {x : FgM} (h : FgAt w S K n ps bl us x) {B : Nat → Prop} (hf : Frame B w w') (hB : ∀ k, k < w.heap.size → S k → ¬ B k) (hy : ByK w w') : FgAt w' S K n ps bl us x := by
 obtain ⟨gl, cl, m, BC, ca, cc, L, D, pt, Ft, h, e⟩ := h
 exact ⟨gl, cl, m, BC, ca, cc, L, D, pt, Ft, h.keep hf hB hy, e⟩
theorem FgAt.on {w w' : World} {S : Nat → Prop} {K n ps : Nat} {bl : Nat → List Nat} {us : List Tb.TV} {x : FgM} (h : FgAt w S K n ps bl us x) (hb : Below w.heap.size w w') : FgAt w' S K n ps bl us x :=
 h.keep (Frame.below (Ft := fun _ => False) hb) (fun _ _ _ q => q) (ByK.below hb)
end Go.Proofs.YtalmanfjiblhcaaGreat
namespace Go.Proofs.YtalmanfjiblhcaaGreat
open Go.RowKit Go.Sort
theorem ret_bool {a b : Bool} (h : a = b) : Ending.returned (.bool a) = .returned (.bool b) := by rw [h]
def FsB (w : World) (ps gl n cl BC m : Nat) : Prop := w.heap[ps]? = some (.cells #[.slice (some ⟨gl, 0, none⟩) n cl, .pointer (some ⟨BC, 0, none⟩), .map (some m)] 89 (0, 0))
theorem FsB.on {w w' : World} {ps gl n cl BC m : Nat} (h : FsB w ps gl n cl BC m) (hb : Below w.heap.size w w') : FsB w' ps gl n cl BC m := (hb.block ps (blk_lt h)).trans h
theorem FsB.cells {w : World} {ps gl n cl BC m : Nat} (h : FsB w ps gl n cl BC m) : w.cell? ⟨ps, 0, none⟩ = some (.slice (some ⟨gl, 0, none⟩) n cl) ∧ w.cell? ⟨ps, 1, none⟩ = some (.pointer (some ⟨BC, 0, none⟩)) ∧ w.cell? ⟨ps, 2, none⟩ = some (.map (some m)) := ⟨cell_of h rfl, cell_of h rfl, cell_of h rfl⟩
theorem fsize_ {w : World} {ps gl n cl BC m : Nat} (h : FsB w ps gl n cl BC m) : Calls Tryz.prog 24 #[.pointer (some ⟨ps, 0, none⟩)] w fun e w' => e = .returned (.int .i64 n) ∧ w' = w := by
 obtain ⟨c0, _, _⟩ := h.cells
 clear h
 go_enter Tryz.func24, Tryz.ntmps24
 go_wp2_with fail
 go_ret
 exact ⟨rfl, rfl⟩
def hasB (n : Nat) (i : Int) : Bool := decide (0 ≤ i) && decide (i < n)
theorem fhas_ {w : World} {ps gl n cl BC m : Nat} (h : FsB w ps gl n cl BC m) (i : Int) : Calls Tryz.prog 20 #[.pointer (some ⟨ps, 0, none⟩), .int .i64 i] w fun e w' => e = .returned (.bool (hasB n i)) ∧ w' = w := by
 have HS := Lib.hid (fsize_ h)
 clear h
 unfold hasB
 by_cases h0 : 0 ≤ i
 · rw [decide_eq_true h0, Bool.true_and]
   by_cases h1 : i < n
   · rw [decide_eq_true h1]
     go_enter Tryz.func20, Tryz.ntmps20
     go_wp2_with (first | (go_at_call 24; refine HS.out.mono ?_; rintro e w' ⟨rfl, rfl⟩) | fail)
     go_ret
     exact ⟨rfl, rfl⟩
   · rw [decide_eq_false h1]
     go_enter Tryz.func20, Tryz.ntmps20
     go_wp2_with (first | (go_at_call 24; refine HS.out.mono ?_; rintro e w' ⟨rfl, rfl⟩) | fail)
     go_ret
     exact ⟨ret_bool (decide_eq_false (by omega)), rfl⟩
 · rw [decide_eq_false h0, Bool.false_and]
   go_enter Tryz.func20, Tryz.ntmps20
   go_wp2_with fail
   go_ret
   exact ⟨rfl, rfl⟩
def tabN (name : ByteArray) (us : List Tb.TV) : Option Nat := us.findIdx? (Tb.isNT name)
theorem tab_cases (name : ByteArray) (us : List Tb.TV) : (tabN name us = none ∧ Tb.tabI name us = 0 ∧ Tb.tabX name us = 30) ∨ ∃ i, tabN name us = some i ∧ i < us.length ∧ Tb.tabI name us = i ∧ Tb.tabX name us = 0 := by
 unfold Tb.tabI Tb.tabX tabN Tb.idxP
 cases e : us.findIdx? (Tb.isNT name) with
 | none => exact .inl ⟨rfl, rfl, rfl⟩
 | some i =>
   obtain ⟨h, _⟩ := List.findIdx?_eq_some_iff_getElem.1 e
   refine .inr ⟨i, rfl, h, ?_, ?_⟩ <;> (simp only []; split <;> omega)
def TabFr (w w' : World) (a : Option Addr) (c : Nat) (cs : List Rw.Col) : Prop := Tb.ColsIn w' a cs ∧ cs.length ≤ c ∧ (a = none → c = 0) ∧ (∀ b o, a = some ⟨b, o, none⟩ → w.heap.size ≤ b) ∧ Below w.heap.size w w'
def FFindTo (w : World) (us : List Tb.TV) (name : ByteArray) (e : Ending) (w' : World) : Prop :=
 (tabN name us = none ∧ e = .returned (.tuple #[.int .i64 0, .agg #[.string ⟨#[]⟩, .slice none 0 0], .iface 77 (.int .i64 30)]) ∧ Below w.heap.size w w') ∨
 ∃ (i : Nat) (h : i < us.length) (a : Option Addr) (c : Nat), tabN name us = some i ∧ e = .returned (.tuple #[.int .i64 i, .agg #[.string us[i].nm, .slice a us[i].cs.length c], .nilIface]) ∧ TabFr w w' a c us[i].cs
set_option maxRecDepth 100000 in
set_option maxHeartbeats 2000000 in
theorem ffind_ {w : World} {ps gl n cl BC m N : Nat} {us : List Tb.TV} (h : FsB w ps gl n cl BC m) (hc : Tb.CatIn w N BC us) (hl : ∀ u ∈ us, u.cs.length ≤ 16) (name : ByteArray) :
 Calls Tryz.prog 43 #[.pointer (some ⟨ps, 0, none⟩), .string name] w (FFindTo w us name) := by
 obtain ⟨W1, hW1⟩ : ∃ W1, W1 = w.alloc (.cells #[.string ⟨#[]⟩, .slice none 0 0] 44) := ⟨_, rfl⟩
 have hB1 : Below w.heap.size w W1 := by rw [hW1]; exact below_alloc _ _
 have hT1 : Tb.TbB W1 w.heap.size ⟨#[]⟩ (.slice none 0 0) := by rw [hW1]; exact Tb.tbB_new _ _ _ _ _ _
 have hC1 := hc.on hB1
 obtain ⟨_, c1, _⟩ := (h.on hB1).cells
 have HF := Lib.hid (Tb.findC_ N BC us name W1 hC1)
 have HW1 := Lib.hid hW1.symm
 have HB1 := Lib.hid hB1
 rcases tab_cases name us with ⟨e1, e2, e3⟩ | ⟨i, e1, hi, e2, e3⟩
 · have HE := Lib.hid e1
   obtain ⟨t0, t1, f0, f1⟩ := hT1
   rw [e2, e3, show Tb.errV 77 30 = .iface 77 (.int .i64 30) from rfl] at HF
   clear h hc hC1 hl hB1 hW1 e1 e2 e3
   go_enter Tryz.func43, Tryz.ntmps43
   go_upto_region 1 with fail
   rw [HW1.out]
   go_wp2_with (first | (go_at_call 71; refine HF.out.mono ?_; rintro e w' ⟨rfl, rfl⟩) | fail)
   refine bodyPost_ret (v := .tuple #[.int .i64 0, .agg #[.string ⟨#[]⟩, .slice none 0 0], .iface 77 (.int .i64 30)]) ?_ rfl (.inl ⟨HE.out, rfl, ((HB1.out).setCell (Nat.le_refl _) _).setCell (Nat.le_refl _) _⟩)
   simp [results, Tryz.results43, go_sem, t0, t1]
 · have HE := Lib.hid e1
   have HT := Lib.hid (Tb.tableC_ N BC us i W1 hC1 hi (hl _ (List.getElem_mem hi)))
   have HT1 := Lib.hid hT1
   have HR0 : Hid (∀ a c e w', e = .returned (.tuple #[.int .i64 i, .agg #[.string us[i].nm, .slice a us[i].cs.length c], .nilIface]) → TabFr w w' a c us[i].cs → FFindTo w us name e w') := fun a c e w' he ht => .inr ⟨i, hi, a, c, e1, he, ht⟩
   rw [e2, e3, show Tb.errV 77 0 = .nilIface from rfl] at HF
   unfold Tb.TabTo at HT
   clear h hc hC1 hl hB1 hW1 e1 e2 e3 hT1
   generalize us[i].nm = nm at *
   generalize us[i].cs = cs at *
   generalize FFindTo w us name = Q at *
   obtain ⟨L, hL⟩ : ∃ L, cs.length = L := ⟨_, rfl⟩
   unfold TabFr at HR0
   rw [hL] at HT HR0
   go_enter Tryz.func43, Tryz.ntmps43
   go_upto_region 1 with fail
   rw [HW1.out]
   go_wp2_with (first
    | (go_at_call 71; refine HF.out.mono ?_; rintro e w' ⟨rfl, rfl⟩)
    | (go_at_call 69; refine HT.out.mono ?_; rintro e w2 ⟨a2, c2, rfl, ⟨hc2, hn2, hna2, hfr2, hfe2⟩, hb2⟩)
    | fail)
   have HT2 := Lib.hid ((HT1.out.on hb2).on (below_alloc w2 (.cells #[.string nm, .slice a2 L c2] 44)))
   have hc3 := hc2.on (below_alloc w2 (.cells #[.string nm, .slice a2 L c2] 44))
   have hb3 := below_step (below_step HB1.out hb2) (below_alloc w2 (.cells #[.string nm, .slice a2 L c2] 44))
   obtain ⟨W3, hW3⟩ : ∃ W3, W3 = w2.alloc (.cells #[.string nm, .slice a2 L c2] 44) := ⟨_, rfl⟩
   have k0 : W3.cell? ⟨w2.heap.size, 0, none⟩ = some (.string nm) := by rw [hW3]; simp [go_sem]
   have k1 : W3.cell? ⟨w2.heap.size, 1, none⟩ = some (.slice a2 L c2) := by rw [hW3]; simp [go_sem]
   rw [← hW3] at HT2 hc3 hb3 ⊢
   obtain ⟨t0, t1, f0, f1⟩ := HT2.out
   have HR : Hid (∀ u v, Q (.returned (.tuple #[.int .i64 i, .agg #[.string nm, .slice a2 L c2], .nilIface])) ((W3.setCell ⟨w.heap.size, 0, none⟩ u).setCell ⟨w.heap.size, 1, none⟩ v).drew) := fun u v =>
    HR0.out a2 c2 _ _ rfl ⟨((hc3.set fun b o e => by have := hfr2 b o e; have := HT1.out.lt; omega).set fun b o e => by have := hfr2 b o e; have := HT1.out.lt; omega), hn2, hna2, fun b o e => Nat.le_trans HB1.out.size (hfr2 b o e), below_step ((hb3.setCell (Nat.le_refl _) _).setCell (Nat.le_refl _) _) (below_drew _)⟩
   clear hc2 hn2 hna2 hfr2 hfe2 hb2 hc3 hb3 hW3 HT1
   go_region
   go_wp2_with fail
   refine bodyPost_ret (v := .tuple #[.int .i64 i, .agg #[.string nm, .slice a2 L c2], .nilIface]) ?_ rfl (HR.out _ _)
   simp [results, Tryz.results43, go_sem, t0, t1]
def ZsIn (w : World) (a : Option Addr) (zs : List Int) : Prop := ∀ i (h : i < zs.length), ∃ b o, a = some ⟨b, o, none⟩ ∧ w.cell? ⟨b, o + i, none⟩ = some (.int .i64 zs[i])
theorem ZsIn.on {w w' : World} {a : Option Addr} {zs : List Int} (h : ZsIn w a zs) (hb : Below w.heap.size w w') : ZsIn w' a zs := fun i hi => by
 obtain ⟨b, o, e, h1⟩ := h i hi
 exact ⟨b, o, e, (hb.cell (block_lt_of_cell h1)).trans h1⟩
set_option maxHeartbeats 1000000 in
theorem min_ {w : World} {a : Option Addr} {c : Nat} {zs : List Int} (h : ZsIn w a zs) (h0 : 0 < zs.length) (hl : zs.length ≤ 140737488355328) :
 Calls Tryz.prog 49 #[.slice a zs.length c] w fun e w' => (∃ r : Int, e = .returned (.int .i64 r) ∧ (r < 0 ↔ ∃ z ∈ zs, z < 0)) ∧ w' = w := by
 obtain ⟨b, o, rfl, _⟩ := h 0 h0
 have HZ : Hid (∀ i (h : i < zs.length), w.cell? ⟨b, o + i, none⟩ = some (.int .i64 zs[i])) := fun i hi => by
  obtain ⟨b', o', e, h1⟩ := h i hi
  simp only [Option.some.injEq, Addr.mk.injEq, and_true] at e
  obtain ⟨rfl, rfl⟩ := e
  exact h1
 have HP : Hid (∀ (r : Int) (n : Nat), zs.length = n → (r < 0 ↔ ∃ j, ∃ h : j < zs.length, j < n ∧ zs[j] < 0) → (r < 0 ↔ ∃ z ∈ zs, z < 0)) := fun r n hn hr => by
  rw [hr]
  constructor
  · rintro ⟨j, hj, _, h2⟩; exact ⟨_, List.getElem_mem hj, h2⟩
  · rintro ⟨z, hz, h2⟩
    obtain ⟨j, hj, rfl⟩ := List.getElem_of_mem hz
    exact ⟨j, hj, hn ▸ hj, h2⟩
 clear h
 obtain ⟨n, hn⟩ : ∃ n, zs.length = n := ⟨_, rfl⟩
 have HN := Lib.hid hn
 have hz := HZ.out 0 h0
 rw [hn] at h0 hl ⊢
 have q1 : ¬ ((n : Int) < 1) := by omega
 have q2 : (0 : Int) < (n : Int) := by omega
 rw [Nat.add_zero] at hz
 go_enter Tryz.func49, Tryz.ntmps49
 go_wp2_with fail
 go_loopw [3, 4] (fun rv iv wr => ∃ (r : Int) (k : Nat), 0 < k ∧ k ≤ n ∧ iv = .int .i64 k ∧ rv = .int .i64 r ∧ Hid (r < 0 ↔ ∃ j, ∃ h : j < zs.length, j < k ∧ zs[j] < 0) ∧ wr = w) (fun _ iv _ => n - (intOf iv).toNat)
 case atStart =>
  refine ⟨_, 1, by omega, by omega, rfl, rfl, ?_, rfl⟩
  constructor
  · intro h; exact ⟨0, by rw [HN.out]; omega, by omega, h⟩
  · rintro ⟨j, hj, h1, h2⟩
    have : j = 0 := by omega
    subst this; exact h2
 case round =>
  obtain ⟨r, k, h1, hk, rfl, rfl, HR, rfl⟩ := hrel
  by_cases hlt : k < n
  · have hz := HZ.out k (by rw [HN.out]; exact hlt)
    have hlt' : (k : Int) < (n : Int) := by omega
    obtain ⟨z, hze⟩ : ∃ z, z = zs[k]'(by rw [HN.out]; exact hlt) := ⟨_, rfl⟩
    rw [← hze] at hz
    have HZ2 : Hid (∀ j, ∀ h : j < zs.length, j = k → zs[j] = z) := fun j hj e => by subst e; exact hze.symm
    clear hze
    go_wp2_with fail
    go_roundw
    case rel =>
     refine ⟨min r z, k + 1, by omega, by omega, by go_num, rfl, ?_, trivial⟩
     constructor
     · intro hm
       rcases (by omega : r < 0 ∨ z < 0) with q | q
       · obtain ⟨j, hj, h2, h3⟩ := HR.out.1 q
         exact ⟨j, hj, by omega, h3⟩
       · exact ⟨k, by rw [HN.out]; exact hlt, by omega, by rw [HZ2.out k _ rfl]; exact q⟩
     · rintro ⟨j, hj, h2, h3⟩
       by_cases e : j = k
       · rw [HZ2.out j hj e] at h3; omega
       · have := HR.out.2 ⟨j, hj, by omega, h3⟩
         omega
    case measure => simp [intOf]; omega
  · obtain rfl : k = n := by omega
    go_wp2_with fail
    go_ret
    exact ⟨⟨r, rfl, HP.out r _ HN.out HR.out⟩, rfl⟩
def snapB (n : Nat) (zs : List Int) : Bool := decide (zs.length = n) && zs.all fun z => decide (0 ≤ z)
def AskTo (w : World) (us : List Tb.TV) (name : ByteArray) (ok : Bool) (e : Ending) (w' : World) : Prop :=
 (ok = false ∧ e = .returned (.tuple #[.int .i64 0, .agg #[.string ⟨#[]⟩, .slice none 0 0], .iface 77 (.int .i64 1)]) ∧ Below w.heap.size w w') ∨ (ok = true ∧ FFindTo w us name e w')
set_option maxRecDepth 100000 in
set_option maxHeartbeats 2000000 in
theorem fasked_ {w : World} {ps gl n cl BC m N : Nat} {us : List Tb.TV} (h : FsB w ps gl n cl BC m) (hc : Tb.CatIn w N BC us) (hl : ∀ u ∈ us, u.cs.length ≤ 16) (i : Int) {a : Option Addr} {c : Nat} {zs : List Int} (hz : ZsIn w a zs) (hzl : zs.length ≤ 140737488355328) (hn : n ≤ 16) (name : ByteArray) :
 Calls Tryz.prog 25 #[.pointer (some ⟨ps, 0, none⟩), .int .i64 i, .slice a zs.length c, .string name] w (AskTo w us name (hasB n i && snapB n zs)) := by
 obtain ⟨W1, hW1⟩ : ∃ W1, W1 = w.alloc (.cells #[.string ⟨#[]⟩, .slice none 0 0] 44) := ⟨_, rfl⟩
 have hB1 : Below w.heap.size w W1 := by rw [hW1]; exact below_alloc _ _
 have hT1 : Tb.TbB W1 w.heap.size ⟨#[]⟩ (.slice none 0 0) := by rw [hW1]; exact Tb.tbB_new _ _ _ _ _ _
 have HS := Lib.hid (fsize_ (h.on hB1))
 have HH := Lib.hid (fhas_ (h.on hB1) i)
 have HF := Lib.hid (ffind_ (h.on hB1) (hc.on hB1) hl name)
 have HW1 := Lib.hid hW1.symm
 have HB1 := Lib.hid hB1
 have HT1 := Lib.hid hT1
 obtain ⟨t0, t1, f0, f1⟩ := hT1
 have HBad : Hid (∀ u v e, (hasB n i && snapB n zs) = false → e = .returned (.tuple #[.int .i64 0, .agg #[.string ⟨#[]⟩, .slice none 0 0], .iface 77 (.int .i64 1)]) → AskTo w us name (hasB n i && snapB n zs) e ((W1.setCell ⟨w.heap.size, 0, none⟩ u).setCell ⟨w.heap.size, 1, none⟩ v)) := fun u v e h1 h2 => .inl ⟨h1, h2, (hB1.setCell (Nat.le_refl _) _).setCell (Nat.le_refl _) _⟩
 have HGood : Hid ((hasB n i && snapB n zs) = true → ∀ e w', FFindTo w us name e w' → AskTo w us name (hasB n i && snapB n zs) e w') := fun h1 e w' h2 => .inr ⟨h1, h2⟩
 have HM : Hid (0 < zs.length → Calls Tryz.prog 49 #[.slice a zs.length c] W1 fun e w' => (∃ r : Int, e = .returned (.int .i64 r) ∧ (r < 0 ↔ ∃ z ∈ zs, z < 0)) ∧ w' = W1) := fun h0 => by
  exact min_ (hz.on hB1) h0 hzl
 have HA : Hid (zs.length = n → (∃ z ∈ zs, z < 0) → snapB n zs = false) := fun e ⟨z, hz, hlt⟩ => by
  unfold snapB
  rw [Bool.and_eq_false_iff]
  refine .inr (Bool.eq_false_iff.2 fun hall => ?_)
  have := of_decide_eq_true (List.all_eq_true.1 hall z hz)
  omega
 have HA2 : Hid (zs.length = n → ¬ (∃ z ∈ zs, z < 0) → snapB n zs = true) := fun e hno => by
  unfold snapB
  rw [decide_eq_true e, Bool.true_and, List.all_eq_true]
  intro z hz
  exact decide_eq_true (Int.not_lt.1 fun hlt => hno ⟨z, hz, hlt⟩)
 have HA3 : Hid (zs.length ≠ n → snapB n zs = false) := fun e => by unfold snapB; rw [decide_eq_false e, Bool.false_and]
 have H0 : Hid (hasB n i = true → 0 < n) := fun e => by unfold hasB at e; simp at e; omega
 have HG2 := Lib.hid (And.intro (Nat.le_refl zs.length) (And.intro hzl hn))
 generalize AskTo w us name = Q at *
 obtain ⟨k, hk⟩ : ∃ k, zs.length = k := ⟨_, rfl⟩
 rw [hk] at HM HA HA2 HA3 HG2 ⊢
 clear h hc hl hz hzl hk hW1 hB1
 cases hb : hasB n i with
 | false =>
   rw [hb] at HH HBad
   rw [Bool.false_and] at HBad ⊢
   go_enter Tryz.func25, Tryz.ntmps25
   go_upto_region 1 with fail
   rw [HW1.out]
   go_wp2_with (first
    | (go_at_call 20; refine HH.out.mono ?_; rintro e w' ⟨rfl, rfl⟩)
    | fail)
   refine bodyPost_ret (v := .tuple #[.int .i64 0, .agg #[.string ⟨#[]⟩, .slice none 0 0], .iface 77 (.int .i64 1)]) ?_ rfl (HBad.out _ _ _ trivial rfl)
   simp [results, Tryz.results25, go_sem, t0, t1]
 | true =>
   have hn0 := H0.out hb
   rw [hb] at HH HBad HGood
   rw [Bool.true_and] at HBad HGood ⊢
   by_cases hkn : k = n
   · subst hkn
     have HM2 := HM.out hn0
     by_cases hneg : ∃ z ∈ zs, z < 0
     · rw [HA.out rfl hneg] at HBad ⊢
       go_enter Tryz.func25, Tryz.ntmps25
       go_upto_region 1 with fail
       rw [HW1.out]
       go_wp2_with (first
        | (go_at_call 20; refine HH.out.mono ?_; rintro e w' ⟨rfl, rfl⟩)
        | (go_at_call 24; refine HS.out.mono ?_; rintro e w' ⟨rfl, rfl⟩)
        | (go_at_call 49; refine HM2.mono ?_; rintro e w' ⟨⟨r, rfl, hr⟩, rfl⟩; have hr2 := hr.2 hneg; clear hr)
        | fail)
       refine bodyPost_ret (v := .tuple #[.int .i64 0, .agg #[.string ⟨#[]⟩, .slice none 0 0], .iface 77 (.int .i64 1)]) ?_ rfl (HBad.out _ _ _ trivial rfl)
       simp [results, Tryz.results25, go_sem, t0, t1]
     · rw [HA2.out rfl hneg] at HGood ⊢
       go_enter Tryz.func25, Tryz.ntmps25
       go_upto_region 1 with fail
       rw [HW1.out]
       go_wp2_with (first
        | (go_at_call 20; refine HH.out.mono ?_; rintro e w' ⟨rfl, rfl⟩)
        | (go_at_call 24; refine HS.out.mono ?_; rintro e w' ⟨rfl, rfl⟩)
        | (go_at_call 49; refine HM2.mono ?_; rintro e w' ⟨⟨r, rfl, hr⟩, rfl⟩; have hr2 : ¬ r < 0 := fun h => hneg (hr.1 h); clear hr)
        | fail)
       refine HF.out.mono ?_
       rintro e w2 (⟨g1, rfl, g2⟩ | ⟨j, hj, a2, c2, g1, rfl, g2, g3, g4, g5, g6⟩)
       · have HR : Hid (∀ u v, Q true (.returned (.tuple #[.int .i64 0, .agg #[.string ⟨#[]⟩, .slice none 0 0], .iface 77 (.int .i64 30)])) ((w2.setCell ⟨w.heap.size, 0, none⟩ u).setCell ⟨w.heap.size, 1, none⟩ v)) := fun u v =>
          HGood.out trivial _ _ (.inl ⟨g1, rfl, ((below_step HB1.out g2).setCell (Nat.le_refl _) _).setCell (Nat.le_refl _) _⟩)
         have HT2 := Lib.hid (HT1.out.on g2)
         clear g1 g2 t0 t1 f0 f1 HT1
         obtain ⟨t0, t1, f0, f1⟩ := HT2.out
         go_wp2_with fail
         refine bodyPost_ret (v := .tuple #[.int .i64 0, .agg #[.string ⟨#[]⟩, .slice none 0 0], .iface 77 (.int .i64 30)]) ?_ rfl (HR.out _ _)
         simp [results, Tryz.results25, go_sem, t0, t1]
       · have HR : Hid (∀ u v, Q true (.returned (.tuple #[.int .i64 j, .agg #[.string us[j].nm, .slice a2 us[j].cs.length c2], .nilIface])) ((w2.setCell ⟨w.heap.size, 0, none⟩ u).setCell ⟨w.heap.size, 1, none⟩ v)) := fun u v =>
          HGood.out trivial _ _ (.inr ⟨j, hj, a2, c2, g1, rfl, (g2.set fun b o e => by have := g5 b o e; have := HT1.out.lt; omega).set fun b o e => by have := g5 b o e; have := HT1.out.lt; omega, g3, g4, fun b o e => Nat.le_trans HB1.out.size (g5 b o e), ((below_step HB1.out g6).setCell (Nat.le_refl _) _).setCell (Nat.le_refl _) _⟩)
         have HT2 := Lib.hid (HT1.out.on g6)
         clear g1 g2 g3 g4 g5 g6 t0 t1 f0 f1 HT1
         generalize us[j].nm = nm at *
         generalize us[j].cs.length = M at *
         obtain ⟨t0, t1, f0, f1⟩ := HT2.out
         go_wp2_with fail
         refine bodyPost_ret (v := .tuple #[.int .i64 j, .agg #[.string nm, .slice a2 M c2], .nilIface]) ?_ rfl (HR.out _ _)
         simp [results, Tryz.results25, go_sem, t0, t1]
   · rw [HA3.out hkn] at HBad ⊢
     have hkn2 : ¬ (k : Int) = (n : Int) := by omega
     go_enter Tryz.func25, Tryz.ntmps25
     go_upto_region 1 with fail
     rw [HW1.out]
     go_wp2_with (first
      | (go_at_call 20; refine HH.out.mono ?_; rintro e w' ⟨rfl, rfl⟩)
      | (go_at_call 24; refine HS.out.mono ?_; rintro e w' ⟨rfl, rfl⟩)
      | fail)
     refine bodyPost_ret (v := .tuple #[.int .i64 0, .agg #[.string ⟨#[]⟩, .slice none 0 0], .iface 77 (.int .i64 1)]) ?_ rfl (HBad.out _ _ _ trivial rfl)
     simp [results, Tryz.results25, go_sem, t0, t1]
end Go.Proofs.YtalmanfjiblhcaaGreat
