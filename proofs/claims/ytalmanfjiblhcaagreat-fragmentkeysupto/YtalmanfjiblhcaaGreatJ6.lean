/- Nodes in memory: all of them in one store; what is theirs, and what stays; Regions that draw their order and end in a store into what they read: what holds until an operation has come up. -/
import Derived.Test.YtalmanfjiblhcaaGreatChecked
import Derived.Test.YtalmanfjiblhcaaGreatVMath
import Derived.WalkKit
import Derived.WalkSpells
import Derived.WalkLawsBesides
import Derived.OwnWalk
import Derived.Lib.QuietBelow
import Derived.Lib.Hide
import Derived.Deep.RegionWith
import Derived.Deep.WholeRow
import Derived.Deep.LoopGhost
import Derived.Deep.MidRow
import Derived.Deep.OwnRows
import Derived.Deep.RegionHeld
import Derived.Deep.RegionHeld3
import Derived.Laws.ResultCell
import Derived.Laws.CopyOwn
import Derived.Lib.AppendZerosOnto
import Derived.Lib.Overlaps
import Derived.Lib.SliceRun
import Derived.Maps.AppendAt
import Derived.Deep.AppendLies
import Derived.BigQuiet
namespace Go.Proofs.YtalmanfjiblhcaaGreat
open Go.RowKit Go.Sort
theorem blk_lt {w : World} {k : Nat} {o : Obj} (h : w.heap[k]? = some o) : k < w.heap.size := (Array.getElem?_eq_some_iff.1 h).1
theorem cell_of {w : World} {k o : Nat} {c : Array Value} {t : TypeId} {z : Nat × Nat} {v : Value} (h : w.heap[k]? = some (.cells c t z)) (hv : c[o]? = some v) : w.cell? ⟨k, o, none⟩ = some v := by
 simp [World.cell?, h, hv]
theorem frozen_of {w : World} {k o : Nat} {c : Array Value} {t : TypeId} (h : w.heap[k]? = some (.cells c t (0, 0))) : w.frozen? ⟨k, o, none⟩ = false := by
 simp [World.frozen?, h]
theorem heap_set {w : World} {k o : Nat} {c : Array Value} {t : TypeId} {z : Nat × Nat} (v : Value) (h : w.heap[k]? = some (.cells c t z)) : (w.setCell ⟨k, o, none⟩ v).heap[k]? = some (.cells (c.setIfInBounds o v) t z) := by
 simp [World.setCell, Array.getElem?_modify, h]
theorem heap_far {w : World} {k b o : Nat} (v : Value) (h : k ≠ b) : (w.setCell ⟨b, o, none⟩ v).heap[k]? = w.heap[k]? := Deep.blk_setCell_other w ⟨b, o, none⟩ v k h
theorem size_set (w : World) (a : Addr) (v : Value) : (w.setCell a v).heap.size = w.heap.size := by simp [World.setCell]
theorem below_step {W w w' : World} (h : Below W.heap.size W w) (hb : Below w.heap.size w w') : Below W.heap.size W w' := h.trans (hb.mono h.size)
theorem below_drew (W : World) : Below W.heap.size W W.drew := (Below.refl _ _).drew
theorem below_drewN {W w : World} (h : Below W.heap.size W w) (n : Nat) : Below W.heap.size W (w.drewN n) := below_step h ⟨rfl, rfl, rfl, Nat.le_refl _, fun _ _ => rfl⟩
theorem below_alloc (w : World) (o : Obj) : Below w.heap.size w (w.alloc o) := (Below.refl _ _).alloc (Nat.le_refl _) _
theorem new_blk (w : World) (o : Obj) : (w.alloc o).heap[w.heap.size]? = some o := by
 show (w.heap.push o)[w.heap.size]? = some o
 simp
theorem wraps_i64 (n : Int) (h0 : -9223372036854775808 ≤ n) (h1 : n ≤ 9223372036854775807) : IntKind.i64.wrap n = n := by rw [IntKind.wrap_i64]; omega
def pt (b : Nat) : Value := .pointer (some ⟨b, 0, none⟩)
def intOf : Value → Int | .int _ q => q | _ => 0
theorem wpList_store_at {ops : Array Oper} {rest : List Oper} {op : Oper} {a : Act} {w w' : World} {Q : Exit → Act → World → Prop} (hgd : op.guard = none) (ty : TypeId) (x y : Operand) (ho : op.op = .store ty x y)
 (p v : Value) (hx : a.eval x = p) (hy : a.eval y = v) (hr : (Instr.storeAt ty p v).run Tryz.prog w = .ok () w') (h : wpList Tryz.prog ops Q rest (a.put op.dst undef) w') : wpList Tryz.prog ops Q (op :: rest) a w :=
 wpList_plain hgd fun _ hK => by
  unfold Oper.wp execOp
  simp only [ho, hx, hy, hr, Sem.run_bind, Sem.run_pure, Result.andThen_ok]
  exact hK _ _ h
def cI (l : List It) : List Value := l.flatMap fun x => [.string x.1, .slice x.2.a x.2.n x.2.c]
def cP (l : List Nat) : List Value := l.map fun q => .pointer (some ⟨q, 0, none⟩)
theorem cI_cons (x : It) (l : List It) : cI (x :: l) = .string x.1 :: .slice x.2.a x.2.n x.2.c :: cI l := rfl
theorem cI_append (a b : List It) : cI (a ++ b) = cI a ++ cI b := by simp [cI]
theorem cP_append (a b : List Nat) : cP (a ++ b) = cP a ++ cP b := by simp [cP]
theorem cI_len : ∀ l : List It, (cI l).length = l.length * 2
 | [] => rfl
 | x :: l => by rw [cI_cons, List.length_cons, List.length_cons, cI_len l, List.length_cons]; omega
theorem cP_len (l : List Nat) : (cP l).length = l.length * 1 := by simp [cP]
theorem cI_one (l : List It) : ∀ u ∈ cI l, u.oneCell' = true := by
 intro u hu
 obtain ⟨x, _, hx⟩ := List.mem_flatMap.1 hu
 rcases List.mem_cons.1 hx with rfl | hx
 · rfl
 · rw [List.mem_singleton.1 hx]; rfl
theorem cP_one (l : List Nat) : ∀ u ∈ cP l, u.oneCell' = true := by
 intro u hu
 obtain ⟨x, _, rfl⟩ := List.mem_map.1 hu
 rfl
theorem cI_take : ∀ (l : List It) (i : Nat), (cI l).take (i * 2) = cI (l.take i)
 | [], i => by simp [cI]
 | x :: l, 0 => by simp [cI]
 | x :: l, i + 1 => by rw [cI_cons, show (i + 1) * 2 = i * 2 + 1 + 1 by omega, List.take_succ_cons, List.take_succ_cons, cI_take l i, List.take_succ_cons, cI_cons]
theorem cI_drop : ∀ (l : List It) (i : Nat), (cI l).drop (i * 2) = cI (l.drop i)
 | [], i => by simp [cI]
 | x :: l, 0 => by simp [cI]
 | x :: l, i + 1 => by rw [cI_cons, show (i + 1) * 2 = i * 2 + 1 + 1 by omega, List.drop_succ_cons, List.drop_succ_cons, cI_drop l i, List.drop_succ_cons]
theorem cP_take (l : List Nat) (i : Nat) : (cP l).take (i * 1) = cP (l.take i) := by rw [Nat.mul_one, cP, cP, List.map_take]
theorem cP_drop (l : List Nat) (i : Nat) : (cP l).drop (i * 1) = cP (l.drop i) := by rw [Nat.mul_one, cP, cP, List.map_drop]
theorem cI_get : ∀ (l : List It) (i : Nat) (x : It), l[i]? = some x → (cI l)[i * 2]? = some (.string x.1) ∧ (cI l)[i * 2 + 1]? = some (.slice x.2.a x.2.n x.2.c)
 | [], i, x, h => by simp at h
 | y :: l, 0, x, h => by simp at h; subst h; exact ⟨rfl, rfl⟩
 | y :: l, i + 1, x, h => by
   have := cI_get l i x (by simpa using h)
   rw [cI_cons, show (i + 1) * 2 = i * 2 + 1 + 1 by omega]
   simpa using this
theorem cP_get (l : List Nat) (i q : Nat) (h : l[i]? = some q) : (cP l)[i]? = some (pt q) := by simp [cP, h, pt]
def RowI (w : World) (v : Value) (l : List It) : Prop := w.ownsRow 0 200 2 v l.length (cI l)
def RowP (w : World) (v : Value) (l : List Nat) : Prop := w.ownsRow 0 196 1 v l.length (cP l)
theorem row_keep {w w' : World} {base e s n : Nat} {v : Value} {xs : List Value} (h : w.ownsRow base e s v n xs) (hk : ∀ g, v.ownBlock = some g → w'.heap[g]? = w.heap[g]?) : w'.ownsRow base e s v n xs := by
 refine ⟨h.1, ?_⟩
 rcases h.2 with h1 | ⟨g, cap, cur, rfl, h1, h2, h3⟩
 · exact .inl h1
 · exact .inr ⟨g, cap, cur, rfl, h1, (hk g rfl).trans h2, h3⟩
theorem row_block {w : World} {base e s n : Nat} {v : Value} {xs : List Value} (h : w.ownsRow base e s v n xs) {g : Nat} (hg : v.ownBlock = some g) : ∃ cur, w.heap[g]? = some (.cells cur e (0, 0)) := by
 rcases h.2 with ⟨e1, _⟩ | ⟨g', cap, cur, e1, h1, h2, _⟩
 · rw [e1] at hg; cases hg
 · rw [e1] at hg
   simp only [Value.ownBlock, Option.some.injEq] at hg
   subst hg
   exact ⟨cur, h2⟩
theorem row_shape {w : World} {base e s n : Nat} {v : Value} {xs : List Value} (h : w.ownsRow base e s v n xs) : ∃ a c, v = .slice a n c ∧ (a = none → n = 0 ∧ c = 0) ∧ (∀ ad, a = some ad → ∃ g, ad = ⟨g, 0, none⟩) ∧ n ≤ c ∧ c ≤ maxLen := by
 rcases h.2 with ⟨rfl, rfl⟩ | ⟨g, cap, cur, rfl, _, _, h1, h2, _⟩
 · exact ⟨none, 0, rfl, fun _ => ⟨rfl, rfl⟩, fun ad e => (by cases e), Nat.le_refl _, by unfold maxLen; omega⟩
 · exact ⟨_, cap, rfl, fun e => (by cases e), fun ad e => by cases e; exact ⟨g, rfl⟩, h1, h2⟩
theorem row_on {w w' : World} {base e s n : Nat} {v : Value} {xs : List Value} (h : w.ownsRow base e s v n xs) (hb : Below w.heap.size w w') : w'.ownsRow base e s v n xs :=
 row_keep h fun g hg => by obtain ⟨cur, hc⟩ := row_block h hg; exact hb.block g (blk_lt hc)
theorem kind_ne {w : World} {k k' : Nat} {c c' : Array Value} {t t' : TypeId} {z z' : Nat × Nat} (h : w.heap[k]? = some (.cells c t z)) (h' : w.heap[k']? = some (.cells c' t' z')) (ht : t ≠ t') : k ≠ k' := fun e => by
 subst e
 rw [h] at h'
 simp only [Option.some.injEq, Obj.cells.injEq] at h'
 exact ht h'.2.1
structure Nd where
 its : List It
 ks : List Nat
 iv : Value
 cv : Value
structure Store (w : World) (M : Nat → Option Nd) : Prop where
 blk : ∀ q n, M q = some n → w.heap[q]? = some (.cells #[n.iv, n.cv] 204 (0, 0))
 its : ∀ q n, M q = some n → RowI w n.iv n.its
 ks : ∀ q n, M q = some n → RowP w n.cv n.ks
 apI : ∀ q q' n n' g, M q = some n → M q' = some n' → n.iv.ownBlock = some g → n'.iv.ownBlock = some g → q = q'
 apC : ∀ q q' n n' g, M q = some n → M q' = some n' → n.cv.ownBlock = some g → n'.cv.ownBlock = some g → q = q'
def Own (M : Nat → Option Nd) (k : Nat) : Prop := ∃ q n, M q = some n ∧ (k = q ∨ n.iv.ownBlock = some k ∨ n.cv.ownBlock = some k)
structure Ext (O O' : Nat → Prop) (w w' : World) : Prop where
 os : w'.os = w.os
 tape : w'.tape = w.tape
 output : w'.output = w.output
 size : w.heap.size ≤ w'.heap.size
 block : ∀ k, k < w.heap.size → ¬ O k → w'.heap[k]? = w.heap[k]?
 new : ∀ k, O' k → O k ∨ w.heap.size ≤ k
theorem Ext.refl (O : Nat → Prop) (w : World) : Ext O O w w := ⟨rfl, rfl, rfl, Nat.le_refl _, fun _ _ _ => rfl, fun _ h => .inl h⟩
theorem Ext.trans {O O' O'' : Nat → Prop} {w w' w'' : World} (h : Ext O O' w w') (k : Ext O' O'' w' w'') : Ext O O'' w w'' := by
 refine ⟨k.os.trans h.os, k.tape.trans h.tape, k.output.trans h.output, Nat.le_trans h.size k.size, fun i hi hn => ?_, fun i hi => ?_⟩
 · refine (k.block i (Nat.lt_of_lt_of_le hi h.size) fun hm => ?_).trans (h.block i hi hn)
   rcases h.new i hm with q | q
   · exact hn q
   · omega
 · rcases k.new i hi with q | q
   · exact h.new i q
   · exact .inr (Nat.le_trans h.size q)
theorem Ext.of_below {w w' : World} (O : Nat → Prop) (h : Below w.heap.size w w') : Ext O O w w' := ⟨h.os, h.tape, h.output, h.size, fun k hk _ => h.block k hk, fun _ h => .inl h⟩
theorem Ext.stays {O O' : Nat → Prop} {w w' : World} (h : Ext O O' w w') {k : Nat} {o : Obj} (hk : w.heap[k]? = some o) (hn : ¬ O k) : w'.heap[k]? = some o ∧ ¬ O' k :=
 ⟨(h.block k (blk_lt hk) hn).trans hk, fun q => by rcases h.new k q with q | q; exact hn q; have := blk_lt hk; omega⟩
theorem Store.lt {w : World} {M : Nat → Option Nd} (h : Store w M) {k : Nat} (hk : Own M k) : k < w.heap.size := by
 obtain ⟨q, n, hq, rfl | e | e⟩ := hk
 · exact blk_lt (h.blk _ _ hq)
 · obtain ⟨c, hc⟩ := row_block (h.its _ _ hq) e; exact blk_lt hc
 · obtain ⟨c, hc⟩ := row_block (h.ks _ _ hq) e; exact blk_lt hc
theorem Store.node_lt {w : World} {M : Nat → Option Nd} (h : Store w M) {q : Nat} {n : Nd} (hq : M q = some n) : q < w.heap.size := blk_lt (h.blk q n hq)
theorem Store.fresh {w : World} {M : Nat → Option Nd} (h : Store w M) {q : Nat} (hq : w.heap.size ≤ q) : M q = none := by
 cases e : M q with
 | none => rfl
 | some n => have := h.node_lt e; omega
theorem Store.not_own {w : World} {M : Nat → Option Nd} (h : Store w M) {k : Nat} (hk : w.heap.size ≤ k) : ¬ Own M k := fun o => by have := h.lt o; omega
theorem Store.keep {w w' : World} {M : Nat → Option Nd} (h : Store w M) (hk : ∀ k, Own M k → w'.heap[k]? = w.heap[k]?) : Store w' M :=
 ⟨fun q n hq => (hk q ⟨q, n, hq, .inl rfl⟩).trans (h.blk q n hq), fun q n hq => row_keep (h.its q n hq) fun g hg => hk g ⟨q, n, hq, .inr (.inl hg)⟩, fun q n hq => row_keep (h.ks q n hq) fun g hg => hk g ⟨q, n, hq, .inr (.inr hg)⟩, h.apI, h.apC⟩
theorem Store.on {w w' : World} {M : Nat → Option Nd} (h : Store w M) (hb : Below w.heap.size w w') : Store w' M := h.keep fun k hk => hb.block k (h.lt hk)
theorem Store.drew {w : World} {M : Nat → Option Nd} (h : Store w M) : Store w.drew M := h.on (below_drew w)
theorem Store.alloc {w : World} {M : Nat → Option Nd} (h : Store w M) (o : Obj) : Store (w.alloc o) M := h.on (below_alloc w o)
def upd (M : Nat → Option Nd) (q : Nat) (n : Nd) : Nat → Option Nd := fun k => if k = q then some n else M k
theorem upd_self (M : Nat → Option Nd) (q : Nat) (n : Nd) : upd M q n q = some n := if_pos rfl
theorem upd_other (M : Nat → Option Nd) {q k : Nat} (n : Nd) (h : k ≠ q) : upd M q n k = M k := if_neg h
theorem Store.set {w w' : World} {M : Nat → Option Nd} {q : Nat} {n n' : Nd} (h : Store w M) (hq : M q = some n)
 (hb : w'.heap[q]? = some (.cells #[n'.iv, n'.cv] 204 (0, 0))) (hi : RowI w' n'.iv n'.its) (hc : RowP w' n'.cv n'.ks)
 (hf : ∀ k, k < w.heap.size → k ≠ q → n.iv.ownBlock ≠ some k → n.cv.ownBlock ≠ some k → w'.heap[k]? = w.heap[k]?)
 (ni : ∀ k, n'.iv.ownBlock = some k → n.iv.ownBlock = some k ∨ w.heap.size ≤ k) (nc : ∀ k, n'.cv.ownBlock = some k → n.cv.ownBlock = some k ∨ w.heap.size ≤ k) : Store w' (upd M q n') := by
 have hqb := h.blk q n hq
 have notI : ∀ (k : Nat) (c : Array Value) (t : TypeId) (z : Nat × Nat), w.heap[k]? = some (.cells c t z) → t ≠ 200 → n.iv.ownBlock ≠ some k := fun k c t z hk ht e => by
  obtain ⟨cur, hc'⟩ := row_block (h.its q n hq) e
  exact kind_ne hk hc' ht rfl
 have notC : ∀ (k : Nat) (c : Array Value) (t : TypeId) (z : Nat × Nat), w.heap[k]? = some (.cells c t z) → t ≠ 196 → n.cv.ownBlock ≠ some k := fun k c t z hk ht e => by
  obtain ⟨cur, hc'⟩ := row_block (h.ks q n hq) e
  exact kind_ne hk hc' ht rfl
 have old : ∀ p m, p ≠ q → M p = some m → w'.heap[p]? = some (.cells #[m.iv, m.cv] 204 (0, 0)) := fun p m hp hm =>
  (hf p (h.node_lt hm) hp (notI p _ _ _ (h.blk p m hm) (by decide)) (notC p _ _ _ (h.blk p m hm) (by decide))).trans (h.blk p m hm)
 have oldI : ∀ p m, p ≠ q → M p = some m → RowI w' m.iv m.its := fun p m hp hm => row_keep (h.its p m hm) fun g hg => by
  obtain ⟨cur, hg'⟩ := row_block (h.its p m hm) hg
  exact hf g (blk_lt hg') (kind_ne hg' hqb (by decide)) (fun e => hp (h.apI p q m n g hm hq hg e)) (notC g _ _ _ hg' (by decide))
 have oldC : ∀ p m, p ≠ q → M p = some m → RowP w' m.cv m.ks := fun p m hp hm => row_keep (h.ks p m hm) fun g hg => by
  obtain ⟨cur, hg'⟩ := row_block (h.ks p m hm) hg
  exact hf g (blk_lt hg') (kind_ne hg' hqb (by decide)) (notI g _ _ _ hg' (by decide)) (fun e => hp (h.apC p q m n g hm hq hg e))
 have crossI : ∀ p m g, p ≠ q → M p = some m → m.iv.ownBlock = some g → n'.iv.ownBlock = some g → False := fun p m g hp hm hg hg' => by
  rcases ni g hg' with e | e
  · exact hp (h.apI p q m n g hm hq hg e)
  · obtain ⟨cur, hc'⟩ := row_block (h.its p m hm) hg
    have := blk_lt hc'; omega
 have crossC : ∀ p m g, p ≠ q → M p = some m → m.cv.ownBlock = some g → n'.cv.ownBlock = some g → False := fun p m g hp hm hg hg' => by
  rcases nc g hg' with e | e
  · exact hp (h.apC p q m n g hm hq hg e)
  · obtain ⟨cur, hc'⟩ := row_block (h.ks p m hm) hg
    have := blk_lt hc'; omega
 refine ⟨fun p m hm => ?_, fun p m hm => ?_, fun p m hm => ?_, fun p p' m m' g hm hm' hg hg' => ?_, fun p p' m m' g hm hm' hg hg' => ?_⟩
 · by_cases hp : p = q
   · subst hp; rw [upd_self] at hm; cases hm; exact hb
   · rw [upd_other M n' hp] at hm; exact old p m hp hm
 · by_cases hp : p = q
   · subst hp; rw [upd_self] at hm; cases hm; exact hi
   · rw [upd_other M n' hp] at hm; exact oldI p m hp hm
 · by_cases hp : p = q
   · subst hp; rw [upd_self] at hm; cases hm; exact hc
   · rw [upd_other M n' hp] at hm; exact oldC p m hp hm
 · by_cases hp : p = q <;> by_cases hp' : p' = q
   · rw [hp, hp']
   · subst hp; rw [upd_self] at hm; cases hm; rw [upd_other M _ hp'] at hm'; exact (crossI p' m' g hp' hm' hg' hg).elim
   · subst hp'; rw [upd_self] at hm'; cases hm'; rw [upd_other M _ hp] at hm; exact (crossI p m g hp hm hg hg').elim
   · rw [upd_other M _ hp] at hm; rw [upd_other M _ hp'] at hm'; exact h.apI p p' m m' g hm hm' hg hg'
 · by_cases hp : p = q <;> by_cases hp' : p' = q
   · rw [hp, hp']
   · subst hp; rw [upd_self] at hm; cases hm; rw [upd_other M _ hp'] at hm'; exact (crossC p' m' g hp' hm' hg' hg).elim
   · subst hp'; rw [upd_self] at hm'; cases hm'; rw [upd_other M _ hp] at hm; exact (crossC p m g hp hm hg hg').elim
   · rw [upd_other M _ hp] at hm; rw [upd_other M _ hp'] at hm'; exact h.apC p p' m m' g hm hm' hg hg'
theorem own_upd {M : Nat → Option Nd} {q : Nat} {n n' : Nd} {B : Nat} (hq : M q = some n) (ni : ∀ k, n'.iv.ownBlock = some k → n.iv.ownBlock = some k ∨ B ≤ k) (nc : ∀ k, n'.cv.ownBlock = some k → n.cv.ownBlock = some k ∨ B ≤ k) : ∀ k, Own (upd M q n') k → Own M k ∨ B ≤ k := by
 rintro k ⟨p, m, hm, hk⟩
 by_cases hp : p = q
 · subst hp
   rw [upd_self] at hm; cases hm
   rcases hk with rfl | e | e
   · exact .inl ⟨_, n, hq, .inl rfl⟩
   · rcases ni k e with e | e
     · exact .inl ⟨_, n, hq, .inr (.inl e)⟩
     · exact .inr e
   · rcases nc k e with e | e
     · exact .inl ⟨_, n, hq, .inr (.inr e)⟩
     · exact .inr e
 · rw [upd_other M n' hp] at hm
   exact .inl ⟨p, m, hm, hk⟩
theorem Store.add {w w' : World} {M : Nat → Option Nd} {r : Nat} {n : Nd} (h : Store w M) (hbl : Below w.heap.size w w') (hr : w.heap.size ≤ r)
 (hb : w'.heap[r]? = some (.cells #[n.iv, n.cv] 204 (0, 0))) (hi : RowI w' n.iv n.its) (hc : RowP w' n.cv n.ks)
 (ni : ∀ k, n.iv.ownBlock = some k → w.heap.size ≤ k) (nc : ∀ k, n.cv.ownBlock = some k → w.heap.size ≤ k) : Store w' (upd M r n) ∧ Ext (Own M) (Own (upd M r n)) w w' := by
 have hn := h.fresh hr
 have h' := h.on hbl
 refine ⟨⟨fun p m hm => ?_, fun p m hm => ?_, fun p m hm => ?_, fun p p' m m' g hm hm' hg hg' => ?_, fun p p' m m' g hm hm' hg hg' => ?_⟩, ⟨hbl.os, hbl.tape, hbl.output, hbl.size, fun k hk _ => hbl.block k hk, ?_⟩⟩
 · by_cases hp : p = r
   · subst hp; rw [upd_self] at hm; cases hm; exact hb
   · rw [upd_other M n hp] at hm; exact h'.blk p m hm
 · by_cases hp : p = r
   · subst hp; rw [upd_self] at hm; cases hm; exact hi
   · rw [upd_other M n hp] at hm; exact h'.its p m hm
 · by_cases hp : p = r
   · subst hp; rw [upd_self] at hm; cases hm; exact hc
   · rw [upd_other M n hp] at hm; exact h'.ks p m hm
 · by_cases hp : p = r <;> by_cases hp' : p' = r
   · rw [hp, hp']
   · subst hp; rw [upd_self] at hm; cases hm; rw [upd_other M _ hp'] at hm'
     have := ni g hg; have := h.lt (k := g) ⟨p', m', hm', .inr (.inl hg')⟩; omega
   · subst hp'; rw [upd_self] at hm'; cases hm'; rw [upd_other M _ hp] at hm
     have := ni g hg'; have := h.lt (k := g) ⟨p, m, hm, .inr (.inl hg)⟩; omega
   · rw [upd_other M _ hp] at hm; rw [upd_other M _ hp'] at hm'; exact h.apI p p' m m' g hm hm' hg hg'
 · by_cases hp : p = r <;> by_cases hp' : p' = r
   · rw [hp, hp']
   · subst hp; rw [upd_self] at hm; cases hm; rw [upd_other M _ hp'] at hm'
     have := nc g hg; have := h.lt (k := g) ⟨p', m', hm', .inr (.inr hg')⟩; omega
   · subst hp'; rw [upd_self] at hm'; cases hm'; rw [upd_other M _ hp] at hm
     have := nc g hg'; have := h.lt (k := g) ⟨p, m, hm, .inr (.inr hg)⟩; omega
   · rw [upd_other M _ hp] at hm; rw [upd_other M _ hp'] at hm'; exact h.apC p p' m m' g hm hm' hg hg'
 · rintro k ⟨p, m, hm, hk⟩
   by_cases hp : p = r
   · subst hp; rw [upd_self] at hm; cases hm
     rcases hk with rfl | e | e
     · exact .inr hr
     · exact .inr (ni k e)
     · exact .inr (nc k e)
   · rw [upd_other M n hp] at hm; exact .inl ⟨p, m, hm, hk⟩
def Gone (v v' : Value) (B : Nat) : Prop := ∀ k, v'.ownBlock = some k → v.ownBlock = some k ∨ B ≤ k
theorem Store.putI {w w1 : World} {M : Nat → Option Nd} {q : Nat} {n : Nd} {v' : Value} {its' : List It} (h : Store w M) (hq : M q = some n) (hg : w.grownBy w1 n.iv.ownBlock) (hi : RowI w1 v' its') (hv : Gone n.iv v' w.heap.size) :
 Store (w1.setCell ⟨q, 0, none⟩ v') (upd M q { n with iv := v', its := its' }) ∧ Ext (Own M) (Own (upd M q { n with iv := v', its := its' })) w (w1.setCell ⟨q, 0, none⟩ v') := by
 have hqb := h.blk q n hq
 have hnq : some q ≠ n.iv.ownBlock := fun e => by
  obtain ⟨cur, hc⟩ := row_block (h.its q n hq) e.symm
  exact kind_ne hqb hc (by decide) rfl
 have hqb1 : w1.heap[q]? = some (.cells #[n.iv, n.cv] 204 (0, 0)) := (hg.block q (blk_lt hqb) hnq).trans hqb
 have far : ∀ (g : Nat) (cur : Array Value) (t : TypeId) (z : Nat × Nat), w1.heap[g]? = some (.cells cur t z) → t ≠ 204 → (w1.setCell ⟨q, 0, none⟩ v').heap[g]? = w1.heap[g]? := fun g cur t z hgb ht => heap_far _ (kind_ne hgb hqb1 ht)
 refine ⟨h.set hq (n' := { n with iv := v', its := its' }) ?_ ?_ ?_ ?_ hv (fun k e => .inl e), ⟨hg.os, hg.tape, hg.output, by rw [size_set]; exact hg.size, fun k hk hn => ?_, own_upd hq hv (fun k e => .inl e)⟩⟩
 · have := heap_set (o := 0) v' hqb1
   simpa using this
 · refine row_keep hi fun g e => ?_
   obtain ⟨cur, hc⟩ := row_block hi e
   exact far g _ _ _ hc (by decide)
 · have hC : RowP w1 n.cv n.ks := row_keep (h.ks q n hq) fun g e => by
    obtain ⟨cur, hc⟩ := row_block (h.ks q n hq) e
    refine hg.block g (blk_lt hc) fun e' => ?_
    obtain ⟨cur', hc'⟩ := row_block (h.its q n hq) e'.symm
    exact kind_ne hc hc' (by decide) rfl
   refine row_keep hC fun g e => ?_
   obtain ⟨cur, hc⟩ := row_block hC e
   exact far g _ _ _ hc (by decide)
 · intro k hk hkq hki hkc
   rw [heap_far _ hkq]
   exact hg.block k hk fun e => hki e.symm
 · rw [heap_far _ (show k ≠ q from fun e => hn ⟨q, n, hq, .inl e⟩)]
   exact hg.block k hk fun e => hn ⟨q, n, hq, .inr (.inl e.symm)⟩
theorem Store.putC {w w1 : World} {M : Nat → Option Nd} {q : Nat} {n : Nd} {v' : Value} {ks' : List Nat} (h : Store w M) (hq : M q = some n) (hg : w.grownBy w1 n.cv.ownBlock) (hi : RowP w1 v' ks') (hv : Gone n.cv v' w.heap.size) :
 Store (w1.setCell ⟨q, 1, none⟩ v') (upd M q { n with cv := v', ks := ks' }) ∧ Ext (Own M) (Own (upd M q { n with cv := v', ks := ks' })) w (w1.setCell ⟨q, 1, none⟩ v') := by
 have hqb := h.blk q n hq
 have hnq : some q ≠ n.cv.ownBlock := fun e => by
  obtain ⟨cur, hc⟩ := row_block (h.ks q n hq) e.symm
  exact kind_ne hqb hc (by decide) rfl
 have hqb1 : w1.heap[q]? = some (.cells #[n.iv, n.cv] 204 (0, 0)) := (hg.block q (blk_lt hqb) hnq).trans hqb
 have far : ∀ (g : Nat) (cur : Array Value) (t : TypeId) (z : Nat × Nat), w1.heap[g]? = some (.cells cur t z) → t ≠ 204 → (w1.setCell ⟨q, 1, none⟩ v').heap[g]? = w1.heap[g]? := fun g cur t z hgb ht => heap_far _ (kind_ne hgb hqb1 ht)
 refine ⟨h.set hq (n' := { n with cv := v', ks := ks' }) ?_ ?_ ?_ ?_ (fun k e => .inl e) hv, ⟨hg.os, hg.tape, hg.output, by rw [size_set]; exact hg.size, fun k hk hn => ?_, own_upd hq (fun k e => .inl e) hv⟩⟩
 · have := heap_set (o := 1) v' hqb1
   simpa using this
 · have hC : RowI w1 n.iv n.its := row_keep (h.its q n hq) fun g e => by
    obtain ⟨cur, hc⟩ := row_block (h.its q n hq) e
    refine hg.block g (blk_lt hc) fun e' => ?_
    obtain ⟨cur', hc'⟩ := row_block (h.ks q n hq) e'.symm
    exact kind_ne hc hc' (by decide) rfl
   refine row_keep hC fun g e => ?_
   obtain ⟨cur, hc⟩ := row_block hC e
   exact far g _ _ _ hc (by decide)
 · refine row_keep hi fun g e => ?_
   obtain ⟨cur, hc⟩ := row_block hi e
   exact far g _ _ _ hc (by decide)
 · intro k hk hkq hki hkc
   rw [heap_far _ hkq]
   exact hg.block k hk fun e => hkc e.symm
 · rw [heap_far _ (show k ≠ q from fun e => hn ⟨q, n, hq, .inl e⟩)]
   exact hg.block k hk fun e => hn ⟨q, n, hq, .inr (.inr e.symm)⟩
theorem Store.cells {w : World} {M : Nat → Option Nd} {q : Nat} {n : Nd} (h : Store w M) (hq : M q = some n) : w.cell? ⟨q, 0, none⟩ = some n.iv ∧ w.cell? ⟨q, 1, none⟩ = some n.cv ∧ w.frozen? ⟨q, 0, none⟩ = false ∧ w.frozen? ⟨q, 1, none⟩ = false :=
 ⟨cell_of (h.blk q n hq) rfl, cell_of (h.blk q n hq) rfl, frozen_of (h.blk q n hq), frozen_of (h.blk q n hq)⟩
theorem infoVI : (Tryz.prog.info? 200).map (fun i => (i.zero, i.size, i.bytes)) = some (some (.agg #[.string ⟨#[]⟩, .slice none 0 0]), 2, 40) := by kernel_rfl
theorem infoVP : (Tryz.prog.info? 196).map (fun i => (i.zero, i.size, i.bytes)) = some (some (.pointer none), 1, 8) := by kernel_rfl
theorem infoVN : (Tryz.prog.info? 204).map (fun i => (i.zero, i.size, i.bytes)) = some (some (.agg #[.slice none 0 0, .slice none 0 0]), 2, 48) := by kernel_rfl
end Go.Proofs.YtalmanfjiblhcaaGreat
namespace Go.Proofs.YtalmanfjiblhcaaGreat
open Go.RowKit Go.Sort
section
variable {P : Program} {ops : Array Oper} {Q : Exit → Act → World → Prop} {md : Region.Mode}
def Ph (A : World → Prop) (e1 : Nat) (B : World → Prop) (e2 : Nat) (C : World → Prop) (l : Array Bool) (w : World) : Prop := A w ∧ (l.getD e1 true = false → B w) ∧ (l.getD e2 true = false → C w)
def PhT (A : World → Prop) (e1 : Nat) (B : World → Prop) (e2 : Nat) (C : World → Prop) (T : List Nat) (w : World) : Prop := A w ∧ (e1 ∈ T → B w) ∧ (e2 ∈ T → C w)
theorem Ph.skip {A B C : World → Prop} {e1 e2 i : Nat} {l : Array Bool} {w : World} (h1 : i ≠ e1) (h2 : i ≠ e2) : Ph A e1 B e2 C (l.setIfInBounds i true) w ↔ Ph A e1 B e2 C l w := by
 unfold Ph
 rw [getD_set_ne true h1, getD_set_ne true h2]
def wpAnyS (P : Program) (md : Region.Mode) (ops : Array Oper) (Q : Exit → Act → World → Prop) (S : Array Bool → World → Prop) : Nat → Array Bool → Act → World → Prop
 | 0, listed, a, w => Region.ready md ops listed = [] ∧ Q .normal a w
 | fuel + 1, listed, a, w =>
   (Region.ready md ops listed = [] → Q .normal a w) ∧
   ∀ i ∈ Region.ready md ops listed, wpOp P ops Q i (fun a' w' => S (listed.setIfInBounds i true) w' ∧ wpAnyS P md ops Q S fuel (listed.setIfInBounds i true) a' w') a w
theorem wpAny_of_S {S : Array Bool → World → Prop} : ∀ (fuel : Nat) (listed : Array Bool) (a : Act) (w : World), wpAnyS P md ops Q S fuel listed a w → wpAny P md ops Q fuel listed a w
 | 0, _, _, _, h => h
 | fuel + 1, _, _, _, h => ⟨h.1, fun i hi => wpOp_mono (fun a' w' h' => wpAny_of_S fuel _ a' w' h'.2) (h.2 i hi)⟩
theorem wpAnyS_first {A B C : World → Prop} {e1 e2 : Nat} {i : Nat} {oi : Oper} {v : Value} (hi : ops[i]? = some oi) (hsel : ∀ (j : Nat) (o : Oper) cs b, ops[j]? = some o → o.op ≠ .select cs b)
 (hQ : ∀ c a w, Q (.panic c) (a.put oi.dst v) w → Q (.panic c) a w) (h1 : i ≠ e1) (h2 : i ≠ e2) (T : List Nat)
 (hT : ∀ t ∈ T, ∃ ot, ops[t]? = some ot ∧ ∃ e ∈ ot.after, Region.binds md e = true ∧ (e.on = i ∨ e.on ∈ T)) (hiT : i ∉ T) :
 ∀ (fuel : Nat) (listed : Array Bool) (a : Act) (w : World),
  (∀ j oj, ops[j]? = some oj → j ≠ i → listed.getD j true = false → (∀ e ∈ oj.after, Region.binds md e = true → e.on ≠ i) → oi.apart ops oj = true) →
  i ∈ Region.ready md ops listed → (∀ t ∈ T, listed.getD t true = false) → YieldsIf P ops (PhT A e1 B e2 C T) oi v a → Ph A e1 B e2 C listed w →
  wpAnyS P md ops Q (Ph A e1 B e2 C) fuel (listed.setIfInBounds i true) (a.put oi.dst v) w → wpAnyS P md ops Q (Ph A e1 B e2 C) (fuel + 1) listed a w := by
 have key : ∀ listed w, (∀ t ∈ T, listed.getD t true = false) → Ph A e1 B e2 C listed w → PhT A e1 B e2 C T w := fun listed w hl hS => ⟨hS.1, fun q => hS.2.1 (hl _ q), fun q => hS.2.2 (hl _ q)⟩
 intro fuel
 induction fuel with
 | zero =>
   intro listed a w _ hr hl hy hS H
   refine ⟨fun h => (by rw [h] at hr; cases hr), fun j hj => ?_⟩
   by_cases hji : j = i
   · subst hji; exact hy.wpOp hi (key _ _ hl hS) ⟨(Ph.skip h1 h2).2 hS, H⟩
   · have := ready_mono hj hji
     rw [H.1] at this
     cases this
 | succ fuel ih =>
   intro listed a w hfree hr hl hy hS H
   refine ⟨fun h => (by rw [h] at hr; cases hr), fun j hj => ?_⟩
   by_cases hji : j = i
   · subst hji; exact hy.wpOp hi (key _ _ hl hS) ⟨(Ph.skip h1 h2).2 hS, H⟩
   · have hh := H.2 j (ready_mono hj hji)
     obtain ⟨hjun, oj, hoj, hall⟩ := mem_ready.1 hj
     have off : ∀ k, listed.getD k true = false → listed.getD k false = true → False := fun k h0 h1 => by
      rcases Nat.lt_or_ge k listed.size with h' | h'
      · simp [h'] at h0 h1; rw [h0] at h1; cases h1
      · simp [Array.getElem?_eq_none h'] at h1
     have hi0 := (mem_ready.1 hr).1
     have hnot : ∀ e ∈ oj.after, Region.binds md e = true → e.on ≠ i := fun e he hb heq => off i hi0 (heq ▸ hall e he hb)
     have hjT : j ∉ T := fun q => by
      obtain ⟨ot, e0, e, he, hb, hon⟩ := hT j q
      rw [hoj] at e0; cases e0
      rcases hon with hon | hon
      · exact hnot e he hb hon
      · exact off _ (hl _ hon) (hall e he hb)
     have h3 := wpOp_putIf hoj (hfree j oj hoj hji hjun hnot) (fun cs b => hsel i oi cs b hi) (fun cs b => hsel j oj cs b hoj) hQ hy hh
     have hfree' : ∀ k ok, ops[k]? = some ok → k ≠ i → (listed.setIfInBounds j true).getD k true = false →
      (∀ e ∈ ok.after, Region.binds md e = true → e.on ≠ i) → oi.apart ops ok = true := fun k ok hk hki hun hno => by
      refine hfree k ok hk hki ?_ hno
      by_cases hjk : j = k
      · subst hjk; exact hjun
      · rw [getD_set_ne true hjk] at hun; exact hun
     refine wpOp_mono (fun a' w' h4 => ?_) h3
     have h5 := h4.2.1
     rw [Array.setIfInBounds_comm _ _ (Ne.symm hji)] at h5
     have h6 := (Ph.skip h1 h2).1 h5
     refine ⟨h6, ih (listed.setIfInBounds j true) a' w' hfree' (ready_mono hr (Ne.symm hji)) (fun t ht => ?_) h4.1 h6 ?_⟩
     · rw [getD_set_ne true (show j ≠ t from fun e => hjT (e ▸ ht))]; exact hl t ht
     · rw [Array.setIfInBounds_comm _ _ hji]
       exact h4.2.2
def waits (md : Region.Mode) (ops : Array Oper) (i : Nat) (T : List Nat) : Bool := T.all fun t => (ops[t]?).any fun o => o.after.any fun e => Region.binds md e && (e.on == i || T.contains e.on)
theorem waits_spec {i : Nat} {T : List Nat} (h : waits md ops i T = true) : ∀ t ∈ T, ∃ ot, ops[t]? = some ot ∧ ∃ e ∈ ot.after, Region.binds md e = true ∧ (e.on = i ∨ e.on ∈ T) := by
 intro t ht
 have := List.all_eq_true.1 h t ht
 cases ho : ops[t]? with
 | none => rw [ho] at this; simp at this
 | some o =>
   rw [ho] at this
   simp only [Option.any_some] at this
   obtain ⟨k, hk, h2⟩ := Array.any_eq_true.1 this
   simp only [Bool.and_eq_true, Bool.or_eq_true, beq_iff_eq, List.contains_eq_mem, decide_eq_true_eq] at h2
   exact ⟨o, rfl, o.after[k], Array.getElem_mem hk, h2.1, h2.2⟩
end
section
variable {P : Program} {l : List Oper} {Q : Exit → Act → World → Prop} {md : Region.Mode} {A B C : World → Prop} {e1 e2 : Nat}
theorem at_list {i : Nat} {oi : Oper} {post : List Oper} (hi : l.drop i = oi :: post) : l.toArray[i]? = some oi := by
 have h1 : (l.drop i)[0]? = some oi := by rw [hi]; rfl
 rw [List.getElem?_drop, Nat.add_zero] at h1
 simpa using h1
theorem take_ph (i : Nat) (v : Value) (T : List Nat) {oi : Oper} {post : List Oper} {fuel : Nat} {listed : Array Bool} {a : Act} {w : World} (hi : l.drop i = oi :: post)
 (hs : (Region.noSelect l.toArray && (Region.free md l.toArray listed i && ((Region.ready md l.toArray listed).contains i && (waits md l.toArray i T && (!(T.contains i) && (T.all (fun t => !(listed.getD t true)) && (!(i == e1) && !(i == e2)))))))) = true)
 (hQ : ∀ c a w, Q (.panic c) (a.put oi.dst v) w → Q (.panic c) a w) (hy : YieldsIf P l.toArray (PhT A e1 B e2 C T) oi v a) (hS : Ph A e1 B e2 C listed w)
 (h : Ph A e1 B e2 C (listed.setIfInBounds i true) w → wpAnyS P md l.toArray Q (Ph A e1 B e2 C) fuel (listed.setIfInBounds i true) (a.put oi.dst v) w) : wpAnyS P md l.toArray Q (Ph A e1 B e2 C) (fuel + 1) listed a w := by
 simp only [Bool.and_eq_true, Bool.not_eq_true'] at hs
 obtain ⟨s1, s2, s3, s4, s5, s6, s7, s8⟩ := hs
 have n1 : i ≠ e1 := by simpa using s7
 have n2 : i ≠ e2 := by simpa using s8
 refine wpAnyS_first (at_list hi) (Region.noSelect_spec s1) hQ n1 n2 T (waits_spec s4) (by simpa using s5) fuel listed a w (Region.free_spec (at_list hi) s2) (by simpa using s3) (fun t ht => ?_) hy hS (h ((Ph.skip n1 n2).2 hS))
 have := List.all_eq_true.1 s6 t ht
 simpa using this
theorem ready_ph (i : Nat) {oi : Oper} {post : List Oper} {fuel : Nat} {listed : Array Bool} {a : Act} {w w' : World} {v : Value} (hi : l.drop i = oi :: post) (hr : Region.ready md l.toArray listed = [i]) (hw : Region.wanted oi (yielded l.toArray a.tmps) = true)
 (hrun : (execOp a.eval oi).run P w = .ok (.value v) w' ∨ ((execOp a.eval oi).run P w = .ok .skip w' ∧ v = undef)) (hS : Ph A e1 B e2 C (listed.setIfInBounds i true) w')
 (h : Ph A e1 B e2 C (listed.setIfInBounds i true) w' → wpAnyS P md l.toArray Q (Ph A e1 B e2 C) fuel (listed.setIfInBounds i true) (a.put oi.dst v) w') : wpAnyS P md l.toArray Q (Ph A e1 B e2 C) (fuel + 1) listed a w := by
 refine ⟨fun h0 => (by rw [hr] at h0; cases h0), fun j hj => ?_⟩
 rw [hr, List.mem_singleton] at hj
 subst hj
 refine wpOp_step (at_list hi) fun K' hK => ?_
 rw [if_pos hw]
 unfold Oper.wp
 rcases hrun with e | ⟨e, rfl⟩
 · rw [e]
   exact hK _ _ ⟨hS, h hS⟩
 · rw [e]
   exact hK _ _ ⟨hS, h hS⟩
theorem ready_store_ph (i : Nat) {oi : Oper} {post : List Oper} {fuel : Nat} {listed : Array Bool} {a : Act} {w w' : World} (hi : l.drop i = oi :: post) (hr : Region.ready md l.toArray listed = [i]) (hw : Region.wanted oi (yielded l.toArray a.tmps) = true)
 (t : TypeId) (x v : Operand) (ho : oi.op = .store t x v) (xv vv : Value) (hx : a.eval x = xv) (hv : a.eval v = vv) (hrun : (Instr.storeAt t xv vv).run P w = .ok () w') (hS : Ph A e1 B e2 C (listed.setIfInBounds i true) w')
 (h : Ph A e1 B e2 C (listed.setIfInBounds i true) w' → wpAnyS P md l.toArray Q (Ph A e1 B e2 C) fuel (listed.setIfInBounds i true) (a.put oi.dst undef) w') : wpAnyS P md l.toArray Q (Ph A e1 B e2 C) (fuel + 1) listed a w :=
 ready_ph i hi hr hw (.inr ⟨by unfold execOp; simp only [ho, hx, hv, hrun, Sem.run_bind, Sem.run_pure, Result.andThen_ok], rfl⟩) hS h
theorem ready_call_ph (i : Nat) {oi : Oper} {post : List Oper} {fuel : Nat} {listed : Array Bool} {a : Act} {w : World} (hi : l.drop i = oi :: post) (hr : Region.ready md l.toArray listed = [i])
 (h : ∀ K' : Act → World → Prop, Shut (∀ a w, Ph A e1 B e2 C (listed.setIfInBounds i true) w → (Ph A e1 B e2 C (listed.setIfInBounds i true) w → wpAnyS P md l.toArray Q (Ph A e1 B e2 C) fuel (listed.setIfInBounds i true) a w) → K' a w) → if Region.wanted oi (yielded l.toArray a.tmps) = true then Oper.wp P oi a w K' Q else K' (a.put oi.dst undef) w) :
 wpAnyS P md l.toArray Q (Ph A e1 B e2 C) (fuel + 1) listed a w := by
 refine ⟨fun h0 => (by rw [hr] at h0; cases h0), fun j hj => ?_⟩
 rw [hr, List.mem_singleton] at hj
 subst hj
 exact wpOp_step (at_list hi) fun K' hK => h K' fun a w hS hW => hK a w ⟨hS, hW hS⟩
theorem done_ph {listed : Array Bool} {a : Act} {w : World} (hr : Region.ready md l.toArray listed = []) (h : Q .normal a w) : ∀ fuel, wpAnyS P md l.toArray Q (Ph A e1 B e2 C) fuel listed a w
 | 0 => ⟨hr, h⟩
 | _ + 1 => ⟨fun _ => h, by rw [hr]; simp⟩
theorem region_ph {id : Nat} {a : Act} {w : World} (hm : P.follows .mixedOrders = true) (hS : Ph A e1 B e2 C (Array.replicate l.length false) w.drew)
 (h : Ph A e1 B e2 C (Array.replicate l.length false) w.drew → wpAnyS P .any l.toArray Q (Ph A e1 B e2 C) l.length (Array.replicate l.length false) a w.drew) : (Code.region id l.toArray true).wp P Q a w := by
 refine wp_region_any hm (wpAny_of_S (S := Ph A e1 B e2 C) _ _ _ _ ?_)
 rw [List.size_toArray]
 exact h hS
end
theorem prw : (∀ (l : List Value) (i : Nat) (v : Value), l.toArray.setIfInBounds i v = (l.set i v).toArray) ∧ (∀ (a b : Value) (l : List Value), (a :: l).set 0 b = b :: l) ∧ ∀ (a b : Value) (l : List Value) (n : Nat), (a :: l).set (n + 1) b = a :: l.set n b :=
 ⟨fun _ _ _ => by simp, fun _ _ _ => rfl, fun _ _ _ _ => rfl⟩
end Go.Proofs.YtalmanfjiblhcaaGreat
